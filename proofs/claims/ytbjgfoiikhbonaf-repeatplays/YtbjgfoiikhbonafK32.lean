import Derived.Test.YtbjgfoiikhbonafK31
import Derived.Shelf.Abstract
set_option linter.unusedVariables false
set_option linter.unusedSimpArgs false
namespace Go.Proofs.Ytbjgfoiikhbonaf
open Go.ChangeShapes Go.WideShapes Go.ChangeAt Go.RowKit
def RReportPost (w : World) (fs : Nat) (us : List TkP) : Ending → World → Prop := fun e w' => ∃ k a n c, k ≤ us.length ∧ (0 < k → (us.getD (k - 1) .zero).th ≠ []) ∧ (∀ j, k ≤ j → j < us.length → (us.getD j .zero).th = []) ∧ e = .returned (.agg #[.int .i64 (((fs + k) % 64 : Nat) : Int), .slice a n c]) ∧ Gps w' a (gapsTo fs us k) ∧ (gapsTo fs us k).length = n ∧ n ≤ maxLen ∧ NewAt w.heap.size a ∧ Below w.heap.size w w' ∧ n ≤ 100000 ∧ w'.ownsRow (w.heap.size + 2) 130 3 (.slice a n c) n (cellsGp (gapsTo fs us k))
set_option maxRecDepth 100000 in
set_option maxHeartbeats 4000000 in
theorem rreport_any {w : World} {b fs g c : Nat} {us : List TkP} (h : PRcv w b fs g c us) (hl : us.length ≤ 32) (hfs : fs < 64) (hsr : ∀ i, Srt (us.getD i .zero).th) (hhi : ∀ i, endS (us.getD i .zero).th ≤ 1500) (hln : ∀ i, (us.getD i .zero).len ≤ 1500) :
    Calls Try.prog 27 #[.pointer (some ⟨b, 0, none⟩)] w (RReportPost w fs us) := by
  have hth : ∀ i, (us.getD i .zero).th.length ≤ 1500 := fun i => Nat.le_trans ((hsr i).few (hsr i).endLe) (hhi i)
  have c0 : w.cell? ⟨b, 0, none⟩ = some (.int .i64 (fs : Int)) := h.hd.cell 0
  have c1 : w.cell? ⟨b, 1, none⟩ = some (.slice (some ⟨g, 0, none⟩) us.length c) := h.hd.cell 1
  have hbl := h.hd.lt
  have hgl := h.gl
  obtain ⟨W1, eW1⟩ : ∃ W1, W1 = w.alloc (.cells #[.int .i64 0, .slice none 0 0] 73) := ⟨_, rfl⟩
  have hkW1 : Kept [] w W1 := by rw [eW1]; exact (Kept.refl _ w).alloc _
  have hbg := rbegun_any (h.kept hkW1 (by simp)) hl (fun i => by have := hth i; omega)
  have hresW1 : At W1 w.heap.size 73 [.int .i64 0, .slice none 0 0] := by rw [eW1]; exact at_alloc w _ _
  have hW1s : W1.heap.size = w.heap.size + 1 := by rw [eW1]; simp
  have k0 := keptCellQ hkW1 c0 (by simp)
  have k1 := keptCellQ hkW1 c1 (by simp)
  obtain ⟨N, hN⟩ : ∃ N, N = us.length := ⟨_, rfl⟩
  generalize hP : RReportPost w fs us = P
  have hbh := fun (W : World) (k : Nat) (hk : k ≤ 4000) => behind_any (n := fs) (k := k) W hfs hk
  have hST : ∀ nx : Int, RpAt w (W1.alloc (.cells #[.int .i64 nx, .slice none 0 0] 73)) nx [] none 0 := fun nx => by
    have hA := at_alloc W1 73 [.int .i64 nx, .slice none 0 0]
    rw [hW1s] at hA
    refine ⟨hA, hresW1.kept ((Kept.refl [] W1).alloc _) (by simp), World.ownsRow_nil _ _ _ _, ?_⟩
    exact (hkW1.alloc _).below (Nat.le_refl _) (by simp)
  have HST := hid hST
  have H := hid h
  have HP := hid hP
  have HN := hid hN
  have HSR := hid hsr
  have HHI := hid hhi
  have HLN := hid hln
  have HTH := hid hth
  rw [← hN] at k1 hl hbg
  have HKW := hid hkW1
  clear h hP hsr hhi hln hth hST hresW1 hkW1 c0 c1 hN
  go_enter Try.func27, Try.ntmps27
  go_upto_region 1 with fail
  rw [← eW1]
  clear eW1
  go_upto_region 3 with (first
    | (go_at_call 52; refine hbg.mono ?_; rintro e w1 ⟨k, hk, rfl, hk1, hk2, rfl⟩; have HK1 := hid hk1; have HK2 := hid hk2; have HK := hid hk; clear hk1 hk2; clear hk; have hk32 : k ≤ 32 := by (have := HK.out; omega))
    | (go_at_call 53; refine (hbh _ k (by omega)).mono ?_; rintro e w2 ⟨rfl, rfl⟩))
  have HNX := hid (show ((fs : Int) + (k : Int)) % 64 = (((fs + k) % 64 : Nat) : Int) by omega)
  generalize ((fs : Int) + (k : Int)) % 64 = NX at *
  have hS0 := hid (HST.out NX)
  generalize w2.alloc (.cells #[.int .i64 NX, .slice none 0 0] 73) = W3 at *
  clear k0 k1 HST HKW hbg
  go_wp2_with fail
  go_loopw [18] (fun vi wr => ∃ (i cr : Nat) (ar : Option Addr), i ≤ k ∧ vi = .int .i64 (i : Int) ∧ Hid (RpAt w wr NX (gapsTo fs us i) ar cr)) (fun vi _ => k - (intOf vi).toNat)
  case atStart => exact ⟨0, 0, none, Nat.zero_le _, rfl, hS0⟩
  case round =>
    obtain ⟨wo, rfl⟩ : ∃ wo, wo = wr := ⟨_, rfl⟩
    obtain ⟨i, cr, ar, hi, rfl, HR⟩ := hrel
    clear hS0
    have hkr : Kept [] w wo := Kept.of_below HR.out.bel
    by_cases hik : i < k
    · have hiN : i < N := by have := HK.out; omega
      have hPr := H.out.kept hkr (by simp)
      have u1 : wo.cell? ⟨b, 1, none⟩ = some (.slice (some ⟨g, 0, none⟩) N c) := by rw [HN.out]; exact hPr.hd.cell 1
      have hgp := tgaps_any (hPr.un (i := i) (by rw [← HN.out]; exact hiN)) (HSR.out i) (by have := HLN.out i; omega) (by have := HHI.out i; omega)
      obtain ⟨G, eG⟩ : ∃ G, G = (us.getD i .zero).gaps := ⟨_, rfl⟩
      obtain ⟨m, em⟩ : ∃ m, m = G.length := ⟨_, rfl⟩
      have hm : m ≤ 1502 := by rw [em, eG]; exact TkP.gaps_len (HTH.out i)
      have hG : TGapsPost wo (us.getD i .zero) = fun e w' => ∃ a' c', e = .returned (.slice a' m c') ∧ OwnSi w' wo.heap.size (.slice a' m c') G ∧ Below wo.heap.size wo w' := by
        funext e w'
        unfold TGapsPost
        rw [← eG, em]
        refine propext ⟨?_, ?_⟩
        · rintro ⟨v', rfl, ho, hb⟩
          obtain ⟨a', c', rfl, -, -, -⟩ := row_shape ho
          exact ⟨a', c', rfl, ho, hb⟩
        · rintro ⟨a', c', rfl, ho, hb⟩
          exact ⟨_, rfl, ho, hb⟩
      rw [hG] at hgp
      have EG := hid eG
      have EM := hid em
      clear hG eG em hPr
      go_upto_region 7 with (go_at_call 54; refine hgp.mono ?_; rintro e w4 ⟨aG, cG, rfl, hO4, hb4⟩; have HO4 := hid hO4; have HB4 := hid hb4; clear hO4 hb4)
      have hrs := HR.out.bel.size
      have hN4l : w.heap.size + 1 < wo.heap.size := HR.out.row.lt
      have hb4s := HB4.out.size
      obtain ⟨S, eS⟩ : ∃ S : List Nat, S = (w.heap.size + 1) :: (Value.slice ar (gapsTo fs us i).length cr).ownBlock.toList := ⟨_, rfl⟩
      have hSlt : ∀ q ∈ S, w.heap.size + 1 ≤ q ∧ q < wo.heap.size := fun q hq => by
        rw [eS, List.mem_cons] at hq
        rcases hq with rfl | hq
        · omega
        · have := World.ownsRow.lt HR.out.own q (by simpa using hq)
          omega
      have HSLT := hid hSlt
      have HSM : Hid (w.heap.size + 1 ∈ S) := hid (by rw [eS]; exact List.mem_cons_self)
      have HSR0 : Hid (∀ q, (Value.slice ar (gapsTo fs us i).length cr).ownBlock = some q → q ∈ S ∨ w4.heap.size ≤ q) := hid fun q hq => .inl (by rw [eS, hq]; simp)
      have HLB := hid (gapsTo_len (fs := fs) HTH.out i)
      obtain ⟨GO, eGO⟩ : ∃ GO, GO = gapsOf fs i (us.getD i .zero) := ⟨_, rfl⟩
      have hGOl : GO.length = m := by rw [eGO]; unfold gapsOf; rw [List.length_map, EM.out, EG.out]
      have HGO := hid eGO
      have HGOL := hid hGOl
      obtain ⟨M, eM⟩ : ∃ M : Int, M = (((fs + i) % 64 : Nat) : Int) := ⟨_, rfl⟩
      have hbM : ∀ W, Calls Try.prog 53 #[.int .i64 (fs : Int), .int .i64 (i : Int)] W fun e w' => e = .returned (.int .i64 M) ∧ w' = W := fun W => by rw [eM]; exact hbh W i (by omega)
      have EMM := hid eM
      have HR4 := hid (HR.out.later HB4.out)
      clear hgp u1 hkr hSlt eS eGO hGOl eM hbh
      go_loopw [29] (fun vj ws => ∃ (j cs : Nat) (az : Option Addr), j ≤ m ∧ vj = .int .i64 (j : Int) ∧ Hid (RpAt w ws NX (gapsTo fs us i ++ GO.take j) az cs) ∧ Hid (Kept S w4 ws) ∧ Hid (∀ q, (Value.slice az (gapsTo fs us i ++ GO.take j).length cs).ownBlock = some q → q ∈ S ∨ w4.heap.size ≤ q)) (fun vj _ => m - (intOf vj).toNat)
      case atStart => exact ⟨0, cr, ar, Nat.zero_le _, rfl, hid (by rw [List.take_zero, List.append_nil]; exact HR4.out), hid (Kept.refl _ _), hid (by rw [List.take_zero, List.append_nil]; exact HSR0.out)⟩
      case round =>
        obtain ⟨ws, rfl⟩ : ∃ ws, ws = wr := ⟨_, rfl⟩
        obtain ⟨j, cs, az, hj, rfl, HS, HKS, HBS⟩ := hrel
        by_cases hjm : j < m
        · have hjG : j < G.length := by rw [← EM.out]; exact hjm
          obtain ⟨gG, rfl, hgGl, hcG⟩ := HO4.out.at (i := j) hjG
          have hgG2 : wo.heap.size ≤ gG := (World.ownsRow.lt HO4.out gG rfl).1
          obtain ⟨z0, z1⟩ := hcG j hjG
          have hgS : gG ∉ S := fun hq => by have := (HSLT.out _ hq).2; omega
          have z0 := keptCellQ HKS.out z0 hgS
          have z1 := keptCellQ HKS.out z1 hgS
          obtain ⟨p, ep⟩ : ∃ p, p = (G.getD j (0, 0)).1 := ⟨_, rfl⟩
          obtain ⟨q, eq⟩ : ∃ q, q = (G.getD j (0, 0)).2 := ⟨_, rfl⟩
          rw [← ep] at z0
          rw [← eq] at z1
          have HTK : Hid (GO.take (j + 1) = GO.take j ++ [⟨M, p, q⟩]) := hid (by
            have hjO : j < GO.length := by rw [HGOL.out]; exact hjm
            rw [List.take_add_one, List.getElem?_eq_getElem hjO]
            have e : GO[j] = (⟨M, p, q⟩ : GapM) := by
              have h1 : GO[j]? = some (⟨M, p, q⟩ : GapM) := by
                rw [HGO.out]
                unfold gapsOf
                rw [← EG.out, List.getElem?_map, List.getElem?_eq_getElem hjG, ← EMM.out]
                have h2 : G.getD j (0, 0) = G[j] := by rw [List.getD_eq_getElem?_getD, List.getElem?_eq_getElem hjG]; rfl
                rw [ep, eq, h2]
                rfl
              rw [List.getElem?_eq_getElem hjO] at h1
              exact Option.some.inj h1
            rw [e]
            rfl)
          obtain ⟨LL, eLL⟩ : ∃ LL, LL = gapsTo fs us i ++ GO.take j := ⟨_, rfl⟩
          obtain ⟨L, eL⟩ : ∃ L, L = LL.length := ⟨_, rfl⟩
          have hLb : L ≤ 100000 := by
            rw [eL, eLL, List.length_append, List.length_take]
            have := HLB.out
            have := HGOL.out
            have : i * (1500 + 2) ≤ 32 * 1502 := Nat.mul_le_mul (by omega) (by omega)
            omega
          rw [← eLL] at HS HBS
          have hkw : Kept [] w ws := Kept.of_below HS.out.bel
          obtain ⟨WB, eWB⟩ : ∃ WB, WB = ws.alloc (.cells #[.int .i64 p, .int .i64 q] 114) := ⟨_, rfl⟩
          have hkB : Kept [] ws WB := by rw [eWB]; exact (Kept.refl _ ws).alloc _
          have hbx : At WB ws.heap.size 114 [.int .i64 p, .int .i64 q] := by rw [eWB]; exact at_alloc ws _ _
          have hWBs : WB.heap.size = ws.heap.size + 1 := by rw [eWB]; simp
          have hN4s : w.heap.size + 1 < ws.heap.size := HS.out.row.lt
          have hsw : wo.heap.size ≤ ws.heap.size := Nat.le_trans hb4s HKS.out.size
          have f0 : w.cell? ⟨b, 0, none⟩ = some (.int .i64 (fs : Int)) := H.out.hd.cell 0
          have g0 := keptCellQ (hkw.trans hkB) f0 (by simp)
          have m0 : WB.cell? ⟨w.heap.size + 1, 1, none⟩ = some (.slice az L cs) := by rw [eL]; exact (HS.out.row.kept hkB (by simp)).cell 1
          have hrB := HS.out.row.kept hkB (by simp)
          have hownB : WB.ownsRow (w.heap.size + 2) 130 3 (.slice az L cs) L (cellsGp LL) := by
            have := keptRow (B := w.heap.size + 2) HS.out.own hkB (by simp)
            rw [← eL] at this
            exact this
          have hblk : ∀ x, x ∈ (Value.slice az L cs).ownBlock.toList → w.heap.size + 2 ≤ x ∧ x < ws.heap.size := fun x hx => by
            have := World.ownsRow.lt HS.out.own x (by rw [← eL]; simpa using hx)
            exact this
          have n1 : w.heap.size + 1 ∉ (Value.slice az L cs).ownBlock.toList := fun hm => by have := hblk _ hm; omega
          have n2 : b ∉ (Value.slice az L cs).ownBlock.toList := fun hm => by have := hblk _ hm; omega
          have n3 : ws.heap.size ∉ (Value.slice az L cs).ownBlock.toList := fun hm => by have := hblk _ hm; omega
          obtain ⟨i0, hi0, hz0, hz1, hz2⟩ := info_parts Try.infoGa
          have HI := hid hi0
          have HZ0 := hid hz0
          have HZ1 := hid hz1
          have HZ2 := hid hz2
          have HOB := hid hownB
          have HM0 := hid m0
          have HG0 := hid g0
          have HBX := hid hbx
          have HN1 := hid n1
          have HN2 := hid n2
          have HN3 := hid n3
          have HBLK := hid hblk
          have HWB := hid hWBs
          have HBM := hid hbM
          have HKB := hid hkB
          have HEL := hid eL
          have HELL := hid eLL
          have HEN : Hid (Enters Try.prog 53) := hid (enters_of Try.func53 (by kernel_rfl) rfl)
          clear hcG hgS ep eq eLL eL hkw hkB hbx g0 f0 hrB hownB hblk hi0 hz0 hz1 hz2 n1 n2 n3 m0
          go_upto_region 9 with fail
          rw [← eWB]
          clear eWB z0 z1 hWBs
          have hmix : Try.prog.follows .mixedOrders = true := by kernel_rfl
          refine wp_mono (region_sigU (Q := fun e a' w' => e = .normal ∧ ∃ gx a5 c5, a' = { tmps := (setAll _ [(33, .pointer (some ⟨w.heap.size + 1, 1, none⟩)), (34, .slice az L cs), (35, .pointer (some ⟨b, 0, none⟩)), (36, .pointer (some ⟨b, 0, none⟩)), (37, .pointer (some ⟨b, 0, none⟩)), (38, .int .i64 (fs : Int)), (39, .int .i64 (i : Int)), (40, .int .i64 M), (41, .pointer (some ⟨ws.heap.size, 0, none⟩)), (42, .int .i64 p), (43, .pointer (some ⟨ws.heap.size, 1, none⟩)), (44, .int .i64 q), (45, .agg #[.int .i64 M, .int .i64 p, .int .i64 q]), (46, .slice (some ⟨gx, 0, none⟩) 1 1), (47, .slice a5 (L + 1) c5), (48, .pointer (some ⟨w.heap.size + 1, 1, none⟩))]).toArray, defers := [] } ∧ Hid (RpAt w w' NX (LL ++ [⟨M, p, q⟩]) a5 c5) ∧ Hid (Kept S w4 w') ∧ Hid (∀ x, (Value.slice a5 (L + 1) c5).ownBlock = some x → x ∈ S ∨ w4.heap.size ≤ x)) 17 16 14 (Value.slice az L cs).ownBlock.toList [33, 34, 35, 36, 37, 38, 39, 40, 41, 42, 43, 44, 45, 46, 47, 48]
            [[4], [33], [0], [35], [36], [37], [5], [38, 39], [7], [41], [7], [43], [40, 42, 44], [45], [34, 46], [4]] [1, 14, 3, 4, 5, 7, 7, 12, 9, 12, 11, 12, 13, 14, 16, 16] (rep9 (w.heap.size + 1) b ws.heap.size fs i M p q (.slice az L cs) (w.heap.size + 2) L WB.heap.size LL (Value.slice az L cs).ownBlock.toList) WB hmix rfl (by decide) rfl (by decide) (by kernel_rfl) (by kernel_rfl) (by kernel_rfl) (by kernel_rfl) (by kernel_rfl) (by kernel_rfl) (fun j hj σ σ' w0 he hp => rep9_cong j σ σ' w0 (he j (Or.inl rfl)) hp) rep9_mono rep9_monoS (fun i' hi' σ ac wc hkc hbc hp hr Q K hK => by
            have h16 : i' = 0 ∨ i' = 1 ∨ i' = 2 ∨ i' = 3 ∨ i' = 4 ∨ i' = 5 ∨ i' = 6 ∨ i' = 7 ∨ i' = 8 ∨ i' = 9 ∨ i' = 10 ∨ i' = 11 ∨ i' = 12 ∨ i' = 13 ∨ i' = 14 ∨ i' = 15 := by omega
            rcases h16 with rfl | rfl | rfl | rfl | rfl | rfl | rfl | rfl | rfl | rfl | rfl | rfl | rfl | rfl | rfl | rfl
            · exact op_value rfl rfl (run_fdRp wc rfl (hr 4 (by decide))) (hK _ wc (Kept.refl _ _) (fun σ' _ h => h))
            · exact op_value rfl rfl (run_ldGs wc rfl ((hr 33 (by decide)).trans (hp 0 (by decide) (by kernel_rfl))) (keptCellQ hkc HM0.out HN1.out)) (hK _ wc (Kept.refl _ _) (fun σ' _ h => h))
            · exact op_value rfl rfl (run_moveQ wc rfl (hr 0 (by decide))) (hK _ wc (Kept.refl _ _) (fun σ' _ h => h))
            · exact op_value rfl rfl (run_nilL wc rfl ((hr 35 (by decide)).trans (hp 2 (by decide) (by kernel_rfl)))) (hK _ wc (Kept.refl _ _) (fun σ' _ h => h))
            · exact op_value rfl rfl (run_fdRc wc rfl ((hr 36 (by decide)).trans (hp 3 (by decide) (by kernel_rfl)))) (hK _ wc (Kept.refl _ _) (fun σ' _ h => h))
            · exact op_value rfl rfl (run_ldIR wc rfl ((hr 37 (by decide)).trans (hp 4 (by decide) (by kernel_rfl))) (keptCellQ hkc HG0.out HN2.out)) (hK _ wc (Kept.refl _ _) (fun σ' _ h => h))
            · exact op_value rfl rfl (run_moveQ wc rfl (hr 5 (by decide))) (hK _ wc (Kept.refl _ _) (fun σ' _ h => h))
            · exact op_callNL rfl rfl rfl HEN.out (map2L ((hr 38 (by decide)).trans (hp 5 (by decide) (by kernel_rfl))) ((hr 39 (by decide)).trans (hp 6 (by decide) (by kernel_rfl)))) (HBM.out wc) (fun e w' h => ⟨_, h.1, by rw [h.2]; exact hK _ wc (Kept.refl _ _) (fun σ' _ h => h)⟩)
            · exact op_value rfl rfl (run_fdS0 wc rfl (hr 7 (by decide))) (hK _ wc (Kept.refl _ _) (fun σ' _ h => h))
            · exact op_value rfl rfl (run_ldIR wc rfl ((hr 41 (by decide)).trans (hp 8 (by decide) (by kernel_rfl))) ((HBX.out.kept hkc HN3.out).cell 0)) (hK _ wc (Kept.refl _ _) (fun σ' _ h => h))
            · exact op_value rfl rfl (run_fdS1 wc rfl (hr 7 (by decide))) (hK _ wc (Kept.refl _ _) (fun σ' _ h => h))
            · exact op_value rfl rfl (run_ldIR wc rfl ((hr 43 (by decide)).trans (hp 10 (by decide) (by kernel_rfl))) ((HBX.out.kept hkc HN3.out).cell 1)) (hK _ wc (Kept.refl _ _) (fun σ' _ h => h))
            · exact op_value rfl rfl (run_bldG wc rfl ((hr 40 (by decide)).trans (hp 7 (by decide) (by kernel_rfl))) ((hr 42 (by decide)).trans (hp 9 (by decide) (by kernel_rfl))) ((hr 44 (by decide)).trans (hp 11 (by decide) (by kernel_rfl)))) (hK _ wc (Kept.refl _ _) (fun σ' _ h => h))
            · refine op_value rfl rfl (run_bslG wc rfl ((hr 45 (by decide)).trans (hp 12 (by decide) (by kernel_rfl)))) (hK _ _ ((Kept.refl _ wc).alloc _) (fun σ' _ h => ⟨wc.heap.size, fun hm => ?_, h, at_alloc wc _ _⟩))
              have h1 := (HBLK.out _ hm).2
              have h2 := hkc.size
              have h3 := HWB.out
              omega
            · obtain ⟨gx, -, b2, b3⟩ := hp 13 (by decide) (by kernel_rfl)
              have hb := hbc rfl
              exact op_pushG rfl rfl HI.out HZ0.out HZ1.out HZ2.out (w.heap.size + 2) M p q gx rfl ((hr 34 (by decide)).trans (hp 1 (by decide) (by kernel_rfl))) ((hr 46 (by decide)).trans b2) (keptRow HOB.out (Kept.of_below (S := []) hb) (by simp)) b3 hLb (by have h1 := hb.size; have h2 := HWB.out; omega) (fun v' w' hO hg hn => hK v' w' (Kept.grownR hg) (fun σ' _ h => by
              obtain ⟨a5, c5, e5, -, -, -⟩ := row_shape hO
              subst e5
              refine ⟨a5, c5, h, hO, fun x hx => ?_⟩
              rcases hn with hn | hn
              · exact .inl (hn ▸ hx)
              · right
                rw [hn] at hx
                cases hx
                exact hb.size))
            · exact op_value rfl rfl (run_fdRp wc rfl (hr 4 (by decide))) (hK _ wc (Kept.refl _ _) (fun σ' _ h => h)))
            (fun σ wc hkc hp => by
              have p0 : σ 0 = _ := hp 0 (by decide)
              have p1 : σ 1 = _ := hp 1 (by decide)
              have p2 : σ 2 = _ := hp 2 (by decide)
              have p3 : σ 3 = _ := hp 3 (by decide)
              have p4 : σ 4 = _ := hp 4 (by decide)
              have p5 : σ 5 = _ := hp 5 (by decide)
              have p6 : σ 6 = _ := hp 6 (by decide)
              have p7 : σ 7 = _ := hp 7 (by decide)
              have p8 : σ 8 = _ := hp 8 (by decide)
              have p9 : σ 9 = _ := hp 9 (by decide)
              have p10 : σ 10 = _ := hp 10 (by decide)
              have p11 : σ 11 = _ := hp 11 (by decide)
              have p12 : σ 12 = _ := hp 12 (by decide)
              have p15 : σ 15 = _ := hp 15 (by decide)
              obtain ⟨gx, -, p13, -⟩ := hp 13 (by decide)
              obtain ⟨a5, c5, p14, ho5, hn5⟩ := hp 14 (by decide)
              have etb : tbS [33, 34, 35, 36, 37, 38, 39, 40, 41, 42, 43, 44, 45, 46, 47, 48] 16 σ = [(33, .pointer (some ⟨w.heap.size + 1, 1, none⟩)), (34, .slice az L cs), (35, .pointer (some ⟨b, 0, none⟩)), (36, .pointer (some ⟨b, 0, none⟩)), (37, .pointer (some ⟨b, 0, none⟩)), (38, .int .i64 (fs : Int)), (39, .int .i64 (i : Int)), (40, .int .i64 M), (41, .pointer (some ⟨ws.heap.size, 0, none⟩)), (42, .int .i64 p), (43, .pointer (some ⟨ws.heap.size, 1, none⟩)), (44, .int .i64 q), (45, .agg #[.int .i64 M, .int .i64 p, .int .i64 q]), (46, .slice (some ⟨gx, 0, none⟩) 1 1), (47, .slice a5 (L + 1) c5), (48, .pointer (some ⟨w.heap.size + 1, 1, none⟩))] := by
                show [(33, σ 0), (34, σ 1), (35, σ 2), (36, σ 3), (37, σ 4), (38, σ 5), (39, σ 6), (40, σ 7), (41, σ 8), (42, σ 9), (43, σ 10), (44, σ 11), (45, σ 12), (46, σ 13), (47, σ 14), (48, σ 15)] = _
                rw [p0, p1, p2, p3, p4, p5, p6, p7, p8, p9, p10, p11, p12, p13, p14, p15]
              rw [etb]
              have hrc := (HS.out.row.kept HKB.out (by simp)).kept hkc HN1.out
              have hks : Kept (Value.slice az L cs).ownBlock.toList ws wc := (HKB.out.wider (by simp)).trans hkc
              refine op_skipL rfl rfl (run_stGs wc rfl ((eval_setAll (t := [(33, .pointer (some ⟨w.heap.size + 1, 1, none⟩)), (34, .slice az L cs), (35, .pointer (some ⟨b, 0, none⟩)), (36, .pointer (some ⟨b, 0, none⟩)), (37, .pointer (some ⟨b, 0, none⟩)), (38, .int .i64 (fs : Int)), (39, .int .i64 (i : Int)), (40, .int .i64 M), (41, .pointer (some ⟨ws.heap.size, 0, none⟩)), (42, .int .i64 p), (43, .pointer (some ⟨ws.heap.size, 1, none⟩)), (44, .int .i64 q), (45, .agg #[.int .i64 M, .int .i64 p, .int .i64 q]), (46, .slice (some ⟨gx, 0, none⟩) 1 1), (47, .slice a5 (L + 1) c5), (48, .pointer (some ⟨w.heap.size + 1, 1, none⟩))]) 48 (show ([33, 34, 35, 36, 37, 38, 39, 40, 41, 42, 43, 44, 45, 46, 47, 48] : List Nat).Nodup by decide) (by kernel_rfl)).trans rfl) ((eval_setAll (t := [(33, .pointer (some ⟨w.heap.size + 1, 1, none⟩)), (34, .slice az L cs), (35, .pointer (some ⟨b, 0, none⟩)), (36, .pointer (some ⟨b, 0, none⟩)), (37, .pointer (some ⟨b, 0, none⟩)), (38, .int .i64 (fs : Int)), (39, .int .i64 (i : Int)), (40, .int .i64 M), (41, .pointer (some ⟨ws.heap.size, 0, none⟩)), (42, .int .i64 p), (43, .pointer (some ⟨ws.heap.size, 1, none⟩)), (44, .int .i64 q), (45, .agg #[.int .i64 M, .int .i64 p, .int .i64 q]), (46, .slice (some ⟨gx, 0, none⟩) 1 1), (47, .slice a5 (L + 1) c5), (48, .pointer (some ⟨w.heap.size + 1, 1, none⟩))]) 47 (show ([33, 34, 35, 36, 37, 38, 39, 40, 41, 42, 43, 44, 45, 46, 47, 48] : List Nat).Nodup by decide) (by kernel_rfl)).trans rfl) (hrc.cell 1) (hrc.free _)) ⟨rfl, gx, a5, c5, rfl, hid ?_, hid ?_, hid ?_⟩
              · have h1 := HS.out.push2 (wc := wc) (a' := a5) (c' := c5) (q := ⟨M, p, q⟩) (by rw [← HEL.out]; exact hks) (by rw [← HEL.out]; exact ho5)
                rw [← HEL.out] at h1
                exact h1
              · have h2 : Kept S w4 wc := keptChain HKS.out hks (fun x hx => by
                  refine HBS.out x ?_
                  rw [← HEL.out]
                  simpa using hx)
                exact h2.setCell (p := ⟨w.heap.size + 1, 1, none⟩) HSM.out _
              · intro x hx
                rcases hn5 x hx with h3 | h3
                · exact HBS.out x (by rw [← HEL.out]; exact h3)
                · right
                  have h4 := HWB.out
                  have h5 := HKS.out.size
                  omega)) ?_
          rintro e a' w5 ⟨rfl, gx, a5, c5, rfl, HS5, HK5, HB5⟩
          dsimp only [setAll, List.set, List.append_nil, List.cons_append, List.nil_append]
          clear hmix HOB HM0 HG0 HBX HN1 HN2 HN3 HBLK HWB HBM HKB HEN
          go_wp2_with fail
          go_roundw
          case rel =>
            refine ⟨j + 1, c5, a5, by omega, by go_num, hid ?_, HK5, hid ?_⟩
            · rw [HTK.out, ← List.append_assoc, ← HELL.out]
              exact HS5.out
            · rw [HTK.out, ← List.append_assoc, ← HELL.out, List.length_append, ← HEL.out]
              exact HB5.out
          case measure => simp [intOf]; omega
        · have ej : j = m := by omega
          subst ej
          have HFIN : Hid (gapsTo fs us (i + 1) = gapsTo fs us i ++ GO.take j) := hid (by
            rw [gapsTo_succ, ← HGO.out, List.take_of_length_le (by rw [HGOL.out]; exact Nat.le_refl _)])
          clear HKS HBS
          go_wp2_with fail
          go_roundw
          case rel => exact ⟨i + 1, cs, az, by omega, by go_num, hid (by rw [HFIN.out]; exact HS.out)⟩
          case measure => simp [intOf]; omega
    · have ei : i = k := by omega
      subst ei
      have r0 : wo.cell? ⟨w.heap.size + 1, 0, none⟩ = some (.int .i64 NX) := HR.out.row.cell 0
      have r1 : wo.cell? ⟨w.heap.size + 1, 1, none⟩ = some (.slice ar (gapsTo fs us i).length cr) := HR.out.row.cell 1
      have s0 : wo.cell? ⟨w.heap.size, 0, none⟩ = some (.int .i64 0) := HR.out.res.cell 0
      have s1 : wo.cell? ⟨w.heap.size, 1, none⟩ = some (.slice none 0 0) := HR.out.res.cell 1
      have f0 : wo.frozen? ⟨w.heap.size, 0, none⟩ = false := HR.out.res.free 0
      have f1 : wo.frozen? ⟨w.heap.size, 1, none⟩ = false := HR.out.res.free 1
      have HLL := hid (gapsTo_len (fs := fs) HTH.out i)
      clear hkr
      generalize hLG : (gapsTo fs us i).length = LG at *
      have HLG := hid hLG
      clear hLG
      go_wp2_with fail
      have hZ : At ((wo.setCell ⟨w.heap.size, 0, none⟩ (.int .i64 NX)).setCell ⟨w.heap.size, 1, none⟩ (.slice ar LG cr)) w.heap.size 73 [.int .i64 NX, .slice ar LG cr] := (HR.out.res.setCell (o := 0) (.int .i64 NX)).setCell (o := 1) (.slice ar LG cr)
      have hKZ : Kept [w.heap.size] wo ((wo.setCell ⟨w.heap.size, 0, none⟩ (.int .i64 NX)).setCell ⟨w.heap.size, 1, none⟩ (.slice ar LG cr)) := ((Kept.refl _ wo).setCell (by simp) _).setCell (by simp) _
      have hown := HR.out.own
      have hnb : ∀ x, ar = some x → w.heap.size + 2 ≤ x.block := fun x hx => by
        obtain ⟨a', c', e, -, -, hx'⟩ := row_shape hown
        simp only [Value.slice.injEq] at e
        obtain ⟨rfl, -, rfl⟩ := e
        obtain ⟨g', rfl, h5⟩ := hx' x hx
        exact (World.ownsRow.lt hown g' h5).1
      refine bodyPost_ret (results_cell_row (p := 2) (ty := 73) (by kernel_rfl) _ _ w.heap.size 73 _ (0, 0) _ rfl hZ Try.underlying73 rfl (by kernel_rfl)) rfl ?_
      rw [← HP.out]
      refine ⟨i, ar, LG, cr, by rw [← HN.out]; exact HK.out, HK1.out, fun j h1 h2 => HK2.out j h1 (by rw [HN.out]; exact h2), by rw [← HNX.out], ?_, HLG.out, ?_, fun x hx => by have := hnb x hx; omega, ?_, ?_, ?_⟩
      · refine (gps_row hown).kept hKZ (fun x hx hm => ?_)
        have := hnb x hx
        simp at hm
        omega
      · have h1 := HLL.out
        have h2 : i * (1500 + 2) ≤ 32 * 1502 := Nat.mul_le_mul (by omega) (by omega)
        unfold maxLen
        omega
      · exact HR.out.bel.trans (hKZ.below HR.out.bel.size (by simp))
      · have h1 := HLL.out
        have h2 : i * (1500 + 2) ≤ 32 * 1502 := Nat.mul_le_mul (by omega) (by omega)
        omega
      · have h9 := keptRow hown hKZ (fun q hq hm => by have := (World.ownsRow.lt hown q hq).1; simp at hm; omega)
        rw [HLG.out] at h9
        exact h9
end Go.Proofs.Ytbjgfoiikhbonaf
