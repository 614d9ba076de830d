import Derived.Test.YtcnkcbipkchoiagU39
import Derived.Test.YtcnkcbipkchoiagU43
import Derived.Test.YtcnkcbipkchoiagU47
import Derived.Test.YtcnkcbipkchoiagU46
import Derived.Test.YtcnkcbipkchoiagU38
import Derived.Test.YtcnkcbipkchoiagU48
import Derived.Deep.Cut
import Derived.Deep.RegionWith
namespace Go.Proofs.Ytcnkcbipkchoiag
open Go.ChangeShapes Go.WideShapes Go.ChangeAt Go.RowKit
theorem pco_kept {w w' : World} {c : Nat} {F : List Nat} {m : CoM} {n : Nat} {T : List Nat} (h : PCo w c F m n) (hk : Kept T w w') (hd : ∀ x ∈ F, x ∉ T) : PCo w' c F m n := by
  obtain ⟨N, rfl, h⟩ := h
  exact ⟨N, rfl, h.kept hk hd⟩
theorem pco_lt {w : World} {c : Nat} {F : List Nat} {m : CoM} {n : Nat} (h : PCo w c F m n) : ∀ x ∈ F, x < w.heap.size := by
  obtain ⟨N, rfl, h⟩ := h
  exact h.lt
def umA : ByteArray := { data := #[97] }
def umS : SdM := (SdM.new 1).send umA
def umC : CoM := ((((CoM.new 9).join 1 5).m.attach 1 3).m.sleep 1).m
theorem umC_page : umC.page 1 = [1, 2, 3, 4, 5, 6, 7, 8] := by decide
set_option maxRecDepth 100000 in
set_option maxHeartbeats 8000000 in
theorem umem_any (us : List ByteArray) (nx : Int) (gs : List GapM) (au ag : Option Addr) (nu cu ng cg : Nat) (w : World)
    (hT : Txs w au us) (hnu : us.length = nu) (hmu : nu ≤ maxLen) (hst : ∀ i, i < us.length → (us.getD i ByteArray.empty).size ≤ maxLen)
    (hG : Gps w ag gs) (hng : gs.length = ng) (hgn : ag = none → ng = 0 ∧ cg = 0) (hzg : ng ≤ 5864062014634) :
    Calls Try.prog 7 #[.slice au nu cu, .agg #[.int .i64 nx, .slice ag ng cg]] w fun e w' => e = .returned (.bool true) ∧ Below w.heap.size w w' := by
  obtain ⟨W0, eW0⟩ : ∃ W0, W0 = w.alloc (.cells #[.int .i64 nx, .slice ag ng cg] 91) := ⟨_, rfl⟩
  have hb0 : Below w.heap.size w W0 := by rw [eW0]; exact (Below.refl _ w).alloc (Nat.le_refl _) _
  have hA0 : At W0 w.heap.size 91 [.int .i64 nx, .slice ag ng cg] := by rw [eW0]; exact at_alloc w _ _
  have HT : Hid (Txs W0 au us) := hid (hT.kept (Kept.of_below (S := []) hb0) (fun _ _ h => by cases h))
  have HG : Hid (Gps W0 ag gs) := hid (rdDGp_below hG hb0)
  have HNU := hid hnu
  have HST := hid hst
  have HNG := hid hng
  have HGN := hid hgn
  have HB0 := hid hb0
  have HA0 := hid hA0
  have hmu' : nu ≤ 9223372036854775807 := by unfold maxLen at hmu; omega
  generalize hP : (fun (e : Ending) (w' : World) => e = .returned (.bool true) ∧ Below w.heap.size w w') = P
  have HP := hid hP
  clear hT hG hnu hst hng hgn hb0 hA0 hP hmu
  go_enter Try.func7, Try.ntmps7
  go_upto_region 1 with fail
  rw [← eW0]
  clear eW0
  go_upto_region 3 with (first
    | (go_at_call 36; refine (snd_new 8 W0 (by decide) (by decide)).mono ?_; rintro e w1 ⟨ps, FS, rfl, hs1, hF1, hb1⟩)
    | (go_at_call 37; refine (rcv_new 8 w1 (by decide) (by decide)).mono ?_; rintro e w2 ⟨pt, FR, rfl, hr2, hG2, hb2⟩))
  have HU2 := hid (Um.new hs1 hF1 hb1 hr2 hG2 hb2)
  clear hs1 hF1 hb1 hr2 hG2 hb2
  generalize OutM.new (8 : Int).toNat = m0 at *
  generalize InM.new (8 : Int).toNat = r0 at *
  go_wp2_with fail
  go_loopw [40] (fun vi wr => ∃ (i : Nat) (Fi : List Nat) (mi : OutM), i ≤ nu ∧ vi = .int .i64 (i : Int) ∧ Hid (Um W0 wr ps pt Fi FR mi r0)) (fun vi _ => nu - (intOf vi).toNat)
  case atStart => exact ⟨0, FS, m0, Nat.zero_le _, rfl, HU2⟩
  case round =>
    obtain ⟨w3, rfl⟩ : ∃ w3, w3 = wr := ⟨_, rfl⟩
    obtain ⟨i, Fi, mi, hi, rfl, HU⟩ := hrel
    clear HU2
    by_cases hin : i < nu
    · have hil : i < us.length := by rw [HNU.out]; exact hin
      have hT3 : Txs w3 au us := HT.out.kept (Kept.of_below (S := []) HU.out.bel) (fun _ _ h => by cases h)
      obtain ⟨bu, ou, rfl, hcu⟩ := hT3 (by intro e; rw [e] at hil; simp at hil)
      have z := hcu i hil
      have hsub := snd_submit (us.getD i ByteArray.empty) HU.out.s (HST.out i hil)
      generalize us.getD i ByteArray.empty = u at *
      clear hcu hil
      go_wp2_with (go_at_call 38; refine hsub.mono ?_; rintro e w4 ⟨rfl, hk4, F4, hs4, hg4⟩; have HU4 := hid (HU.out.snd hk4 hs4 hg4); clear hk4 hs4 hg4)
      go_roundw
      case rel => exact ⟨i + 1, F4, _, by omega, by go_num, HU4⟩
      case measure => simp [intOf]; omega
    · have ei : i = nu := by omega
      subst ei
      have hnx := snd_next 5 HU.out.s
      have hby := next_bytes mi
      generalize mi.next 5 = X at hnx hby
      obtain ⟨mn, ⟨num, frm, last, data⟩, er⟩ := X
      dsimp only [PieceM.val] at hnx hby
      go_upto_region 11 with (go_at_call 39; refine hnx.mono ?_; rintro e w5 ⟨rfl, hk5, F5, hs5, hg5⟩; have HU5 := hid (HU.out.snd hk5 hs5 hg5); clear hk5 hs5 hg5)
      clear hnx HU hin
      obtain ⟨W6, eW6⟩ : ∃ W6, W6 = w5.alloc (.cells #[.int .i64 num, .int .i64 frm, .bool last, .string data] 100) := ⟨_, rfl⟩
      rw [← eW6]
      have hb6 : Below w5.heap.size w5 W6 := by rw [eW6]; exact (Below.refl _ w5).alloc (Nat.le_refl _) _
      have HU6 := hid (HU5.out.below hb6)
      have hA6 : At W6 w5.heap.size 100 [.int .i64 num, .int .i64 frm, .bool last, .string data] := by rw [eW6]; exact at_alloc w5 _ _
      have p0 : W6.cell? ⟨w5.heap.size, 0, none⟩ = some (.int .i64 num) := hA6.cell 0
      have p1 : W6.cell? ⟨w5.heap.size, 1, none⟩ = some (.int .i64 frm) := hA6.cell 1
      have p2 : W6.cell? ⟨w5.heap.size, 2, none⟩ = some (.bool last) := hA6.cell 2
      have p3 : W6.cell? ⟨w5.heap.size, 3, none⟩ = some (.string data) := hA6.cell 3
      have htk := rcv_takeO ⟨num, frm, last, data⟩ HU6.out.r hby
      dsimp only [PieceM.val] at htk
      clear eW6 hb6 hA6 HU5
      go_upto_region 12 with (go_at_call 40; refine htk.mono ?_; rintro e w7 hto; obtain ⟨al, nl, cl, F7, rfl, hn7, ho7, hk7, hr7, hg7, hni7⟩ := takeO_split hto; clear hto)
      have HU7 := hid (HU6.out.rcv hk7 hr7 hg7)
      have hlt6 := snd_lt HU6.out.s
      have hz6 := HU6.out.bel.size
      have hz7 := hk7.size
      generalize (r0.take ⟨num, frm, last, data⟩) = rt at *
      have hsp := spoiltKT { data := #[115, 112, 111, 105, 108, 116] } _ nl _ _ _ w7 ho7 hz7 (fun k hk => Option.mem_toList.2 hk) (by omega)
      have HO7 := hid (fun (w2 : World) (hk : Kept (Value.slice al nl cl).ownBlock.toList w7 w2) => HU7.out.own hz6 ho7 hlt6 hni7 hk)
      clear p0 p1 p2 p3 htk HU6 ho7 hk7 hr7 hg7 hlt6 hni7 hz6
      go_upto_region 13 with (go_at_call 41; refine hsp.mono ?_; rintro e w8 ⟨rfl, hk8⟩; have HU8 := hid (HO7.out w8 hk8); clear hk8)
      clear hsp HO7 HU7 hz7
      have hA8 := HA0.out.kept (Kept.of_below (S := []) HU8.out.bel) (by simp)
      have q0 : w8.cell? ⟨w.heap.size, 0, none⟩ = some (.int .i64 nx) := hA8.cell 0
      have q1 : w8.cell? ⟨w.heap.size, 1, none⟩ = some (.slice ag ng cg) := hA8.cell 1
      have hRO := fun (wz : World) (hbz : Below W0.heap.size W0 wz) => roomyDGp gs mkG ag cg ng wz (rdDGp_belowB HG.out hbz rfl) HGN.out HNG.out hzg
      have HRO := hid hRO
      have hRE : Enters Try.prog 42 := enters_of Try.func42 (by kernel_rfl) rfl
      have hcw : ∀ (wc : World), Below w8.heap.size w8 wc → ∀ q v, w8.cell? q = some v → wc.cell? q = some v := fun wc hbc q v h => (hbc.cell (World.block_lt_of_cell? w8 _ h)).trans h
      have hmix : Try.prog.follows .mixedOrders = true := by kernel_rfl
      obtain ⟨gG, eG⟩ : ∃ gG, gG = w.heap.size := ⟨_, rfl⟩
      rw [← eG] at q0 q1
      rw [← eG]
      have HGG := hid eG
      clear hA8 hRO eG
      refine wp_mono (region_sig (Q := fun e a' w' => e = .normal ∧ ∃ gS gX, w8.heap.size ≤ gS ∧ w8.heap.size ≤ gX ∧ gX ≠ gS ∧ a' = { tmps := (setAll _ [(63, .pointer (some ⟨gG, 0, none⟩)), (64, .int .i64 nx), (65, .pointer (some ⟨gG, 0 + 1, none⟩)), (66, .slice ag ng cg), (67, .agg #[.int .i64 (-7), .int .i64 0, .int .i64 0]), (68, .slice (some ⟨gS, 0, none⟩) ng (ng + 3)), (69, .agg #[.int .i64 nx, .slice (some ⟨gS, 0, none⟩) ng (ng + 3)]), (13, .pointer (some ⟨gX, 0, none⟩))]).toArray, defers := [] } ∧ ArrDGp w' gS (gs ++ [mkG, mkG, mkG]) ∧ At w' gX 91 [.int .i64 nx, .slice (some ⟨gS, 0, none⟩) ng (ng + 3)] ∧ Below w8.heap.size w8 w') 9 8 [63, 64, 65, 66, 67, 68, 69, 13]
        [[3], [63], [3], [65], [], [66, 67], [64, 68], []] [1, 6, 3, 5, 5, 6, 8, 8] (um13 gG nx ag ng cg gs w8.heap.size) w8 hmix rfl (by decide) rfl (by decide) (by kernel_rfl) (by kernel_rfl) (by kernel_rfl) (by kernel_rfl) (by kernel_rfl) (by kernel_rfl) (fun j hj σ σ' w0 he hp => by
          have e0 := he j (Or.inl rfl)
          have h8 : j = 0 ∨ j = 1 ∨ j = 2 ∨ j = 3 ∨ j = 4 ∨ j = 5 ∨ j = 6 ∨ j = 7 := by omega
          rcases h8 with rfl | rfl | rfl | rfl | rfl | rfl | rfl | rfl
          · exact e0.symm.trans hp
          · exact e0.symm.trans hp
          · exact e0.symm.trans hp
          · exact e0.symm.trans hp
          · exact e0.symm.trans hp
          · obtain ⟨g, h1, h2, h3⟩ := hp
            exact ⟨g, h1, e0.symm.trans h2, h3⟩
          · have e5 := he 5 (Or.inr (by kernel_rfl))
            have hp' : σ 6 = .agg #[.int .i64 nx, σ 5] := hp
            show σ' 6 = .agg #[.int .i64 nx, σ' 5]
            rw [← e0, ← e5]
            exact hp'
          · obtain ⟨g, h1, h2, h3⟩ := hp
            exact ⟨g, h1, e0.symm.trans h2, h3⟩) um13_mono (fun i' hi' σ ac wc hbc hp hr Q K hK => by
          have h8 : i' = 0 ∨ i' = 1 ∨ i' = 2 ∨ i' = 3 ∨ i' = 4 ∨ i' = 5 ∨ i' = 6 ∨ i' = 7 := by omega
          rcases h8 with rfl | rfl | rfl | rfl | rfl | rfl | rfl | rfl
          · exact op_value rfl rfl (run_fdRp0 wc rfl (hr 3 (by decide))) (hK _ wc (grownU wc) (fun σ' _ h => h))
          · exact op_value rfl rfl (run_ldIR wc rfl ((hr 63 (by decide)).trans (hp 0 (by decide) (by kernel_rfl))) (hcw wc hbc _ _ q0)) (hK _ wc (grownU wc) (fun σ' _ h => h))
          · exact op_value rfl rfl (run_fdRp wc rfl (hr 3 (by decide))) (hK _ wc (grownU wc) (fun σ' _ h => h))
          · exact op_value rfl rfl (run_ldGs wc rfl ((hr 65 (by decide)).trans (hp 2 (by decide) (by kernel_rfl))) (hcw wc hbc _ _ q1)) (hK _ wc (grownU wc) (fun σ' _ h => h))
          · exact op_value rfl rfl (run_bldM wc rfl rfl) (hK _ wc (grownU wc) (fun σ' _ h => h))
          · refine op_callNL rfl rfl rfl hRE (map2L ((hr 66 (by decide)).trans (hp 3 (by decide) (by kernel_rfl))) ((hr 67 (by decide)).trans (hp 4 (by decide) (by kernel_rfl)))) (HRO.out wc (HU8.out.bel.trans (hbc.mono HU8.out.bel.size))) fun e w' hr' => ?_
            obtain ⟨g, rfl, h1, h2, h3⟩ := hr'
            exact ⟨_, rfl, hK _ w' ⟨h3.os, h3.tape, h3.output, h3.size, fun b hb _ => h3.block b hb⟩ (fun σ' _ h => ⟨g, Nat.le_trans hbc.size h2, h, h1⟩)⟩
          · obtain ⟨g, h1, h2, h3⟩ := hp 5 (by decide) (by kernel_rfl)
            exact op_value rfl rfl (run_bldRp wc rfl ((hr 64 (by decide)).trans (hp 1 (by decide) (by kernel_rfl))) ((hr 68 (by decide)).trans h2)) (hK _ wc (grownU wc) (fun σ' hj h => by
              show σ' 6 = .agg #[.int .i64 nx, σ' 5]
              rw [h, hj 5 (by decide), h2]))
          · exact op_value rfl rfl (run_alRp wc rfl) (hK _ _ ⟨rfl, rfl, rfl, by simp, fun k hk _ => Below.heap_alloc _ _ _ hk⟩ (fun σ' _ h => ⟨wc.heap.size, hbc.size, h, heap_alloc_new wc _⟩)))
        (fun σ wc hbc hp => by
          have p0 : σ 0 = _ := hp 0 (by decide)
          have p1 : σ 1 = _ := hp 1 (by decide)
          have p2 : σ 2 = _ := hp 2 (by decide)
          have p3 : σ 3 = _ := hp 3 (by decide)
          have p4 : σ 4 = _ := hp 4 (by decide)
          obtain ⟨gS, s1, p5, s3⟩ := hp 5 (by decide)
          have p6 : σ 6 = .agg #[.int .i64 nx, σ 5] := hp 6 (by decide)
          obtain ⟨gX, x1, p7, x3⟩ := hp 7 (by decide)
          rw [p5] at p6
          have etb : tbS [63, 64, 65, 66, 67, 68, 69, 13] 8 σ = [(63, .pointer (some ⟨gG, 0, none⟩)), (64, .int .i64 nx), (65, .pointer (some ⟨gG, 0 + 1, none⟩)), (66, .slice ag ng cg), (67, .agg #[.int .i64 (-7), .int .i64 0, .int .i64 0]), (68, .slice (some ⟨gS, 0, none⟩) ng (ng + 3)), (69, .agg #[.int .i64 nx, .slice (some ⟨gS, 0, none⟩) ng (ng + 3)]), (13, .pointer (some ⟨gX, 0, none⟩))] := by
            show [(63, σ 0), (64, σ 1), (65, σ 2), (66, σ 3), (67, σ 4), (68, σ 5), (69, σ 6), (13, σ 7)] = _
            rw [p0, p1, p2, p3, p4, p5, p6, p7]
          rw [etb]
          have hne : gS ≠ gX := fun e => by
            rw [← e] at x3
            unfold ArrDGp at s3
            rw [x3] at s3
            simp at s3
          exact op_skipL rfl rfl (run_stRp wc rfl (eval_setAll 13 (show ([63, 64, 65, 66, 67, 68, 69, 13] : List Nat).Nodup by decide) (by kernel_rfl)) (eval_setAll 69 (show ([63, 64, 65, 66, 67, 68, 69, 13] : List Nat).Nodup by decide) (by kernel_rfl)) x3 rfl rfl rfl) ⟨rfl, gS, gX, s1, x1, fun e => hne e.symm, rfl, (setRow_other wc gX gS _ hne).trans s3, setRow_heap _ _ _ _ _ _ x3, below_setRowU hbc x1 _⟩)) ?_
      rintro e a' w9 ⟨rfl, gS, gX, hgS, hgX, hnX, rfl, hS9, hX9, hb9⟩
      dsimp only [setAll, List.set, List.append_nil, List.cons_append, List.nil_append]
      have HU9 := hid (HU8.out.below hb9)
      clear HRO hRE hcw hmix q0 q1
      have nX5 : gX ∉ F5 ∧ gX ∉ F7 := HU8.out.fresh hgX
      have nS5 : gS ∉ F5 ∧ gS ∉ F7 := HU8.out.fresh hgS
      have zX9 := hX9.lt
      have zS9 := hS9.lt
      have z08 := HU8.out.bel.size
      have x0 : w9.cell? ⟨gX, 0, none⟩ = some (.int .i64 nx) := hX9.cell 0
      have x1 : w9.cell? ⟨gX, 1, none⟩ = some (.slice (some ⟨gS, 0, none⟩) ng (ng + 3)) := hX9.cell 1
      have hmg : ng ≤ maxLen := by unfold maxLen; omega
      have hst := snd_take ⟨nx, gs⟩ (some ⟨gS, 0, none⟩) ng (ng + 3) HU9.out.s hS9.rd (fun y hy => by obtain rfl := Option.some.inj hy; exact nS5.1) HNG.out hmg
      clear HU8 hb9
      go_upto_region 15 with (go_at_call 43; refine hst.mono ?_; rintro e wA ⟨rfl, hkA, FA, hsA, hgA⟩)
      have HUA := hid (HU9.out.snd hkA hsA hgA)
      generalize (mn.take ⟨nx, gs⟩).m = ma at *
      have hXA := hX9.kept hkA nX5.1
      have hSA := hS9.kept hkA nS5.1
      have nXA : gX ∉ FA := fun e => by rcases hgA gX e with h | h; exact nX5.1 h; omega
      have nSA : gS ∉ FA := fun e => by rcases hgA gS e with h | h; exact nS5.1 h; omega
      have hGA := HA0.out.kept (Kept.of_below (S := []) HUA.out.bel) (by simp)
      rw [← HGG.out] at hGA
      have g1 : wA.cell? ⟨gG, 1, none⟩ = some (.slice ag ng cg) := hGA.cell 1
      have x1 : wA.cell? ⟨gX, 1, none⟩ = some (.slice (some ⟨gS, 0, none⟩) ng (ng + 3)) := hXA.cell 1
      have hkp := keptDGp gs mkG gS ng ag cg wA HNG.out hzg hSA (rdDGp_belowB HG.out HUA.out.bel rfl)
      dsimp only [mkG] at hkp
      clear hst hkA hsA hgA hX9 hS9 HU9 hGA x0
      go_upto_region 17 with (go_at_call 44; refine hkp.mono ?_; rintro e wB ⟨rfl, hbB⟩)
      have HUB := hid (HUA.out.below hbB)
      have hXB := hXA.kept (Kept.of_below (S := []) hbB) (by simp)
      have hSB := hSA.below hbB hSA.lt
      have x1 : wB.cell? ⟨gX, 1, none⟩ = some (.slice (some ⟨gS, 0, none⟩) ng (ng + 3)) := hXB.cell 1
      have z0B := HUB.out.bel.size
      have hsx := spoiltDGp ⟨3, 0, 0⟩ _ ng _ W0.heap.size [gS] wB (own_of_blockD (n := ng) (cap := ng + 3) (by omega) hSB (by omega) (by unfold maxLen; omega) (by have := HNG.out; simp [cellsDGp_length]; omega)) z0B (fun k hk => by simpa using (show some gS = some k from hk).symm) hzg
      have HOB := hid (fun (w2 : World) (hk : Kept [gS] wB w2) => HUB.out.kept hk (fun y hy => by obtain rfl : y = gS := (by simpa using hy); omega) (fun y hy => by obtain rfl : y = gS := (by simpa using hy); exact ⟨nSA, nS5.2⟩))
      clear hkp hbB hXA hSA HUA g1 hXB hSB
      go_upto_region 18 with (go_at_call 45; refine hsx.mono ?_; rintro e wC ⟨rfl, hkC⟩; have HUC := hid (HOB.out wC hkC); clear hkC)
      clear hsx HOB x1 HUB z0B nX5 nS5 zX9 zS9 nXA nSA
      have hrp := rcv_reportO HUC.out.r
      go_upto_region 19 with (go_at_call 46; refine hrp.mono ?_; rintro e wD ⟨aD, nD, cD, rfl, -, -, -, -, hkD, FD, hrD, hgD, hniD, hnD, hoD, hbD⟩)
      obtain ⟨WE, eWE⟩ : ∃ WE, WE = wD.alloc (.cells #[.int .i64 rt.m.report.next, .slice aD nD cD] 91) := ⟨_, rfl⟩
      rw [← eWE]
      have hbE : Below wD.heap.size wD WE := by rw [eWE]; exact (Below.refl _ wD).alloc (Nat.le_refl _) _
      have hAE : At WE wD.heap.size 91 [.int .i64 rt.m.report.next, .slice aD nD cD] := by rw [eWE]; exact at_alloc wD _ _
      have HUE := hid ((HUC.out.rcv hkD hrD hgD).below hbE)
      have hoE : WE.ownsRow wC.heap.size 107 3 (.slice aD nD cD) nD (cellsGp rt.m.report.miss) := by rw [eWE]; exact World.ownsRow.alloc hoD _
      have a1 : WE.cell? ⟨wD.heap.size, 1, none⟩ = some (.slice aD nD cD) := hAE.cell 1
      have zDb := hbD.size
      have zE : wC.heap.size ≤ WE.heap.size := Nat.le_trans hbD.size hbE.size
      have hlC := snd_lt HUC.out.s
      have z0C := HUC.out.bel.size
      have hsp2 := spoiltDGp ⟨-7, 0, 0⟩ _ nD _ _ _ WE hoE zE (fun k hk => Option.mem_toList.2 hk) (by omega)
      have HOE := hid (fun (w2 : World) (hk : Kept (Value.slice aD nD cD).ownBlock.toList WE w2) => HUE.out.own z0C hoE hlC hniD hk)
      have HAE := hid (fun (w2 : World) (hk : Kept (Value.slice aD nD cD).ownBlock.toList WE w2) => hAE.kept hk (fun hm => by have := (World.ownsRow.lt hoD wD.heap.size (by simpa using hm)).2; omega))
      clear hrp eWE hbE hAE hkD hrD hgD hniD hoD hbD hoE hlC HUC
      go_upto_region 20 with (go_at_call 45; refine hsp2.mono ?_; rintro e wF ⟨rfl, hkF⟩; have HUF := hid (HOE.out wF hkF); have HAF := hid (HAE.out wF hkF); clear hkF)
      clear hsp2 HOE HAE HUE a1 zE
      have hrp := rcv_reportO HUF.out.r
      obtain ⟨gA, egA⟩ : ∃ gA, gA = wD.heap.size := ⟨_, rfl⟩
      rw [← egA] at HAF
      rw [← egA]
      have hgA0 : W0.heap.size ≤ gA := by omega
      have hmn := miss_num rt.m
      generalize rt.m.report = RP at *
      obtain ⟨rn, rl⟩ := RP
      dsimp only at hrp HAF hmn
      clear egA zDb z0C
      go_upto_region 21 with (go_at_call 46; refine hrp.mono ?_; rintro e wG ⟨aG, nG, cG, rfl, hGG, hlG, hmG, hnG, -, -, -, -, -, hsG, -, hbG⟩; have hAG := HAF.out.kept (Kept.of_below (S := []) hbG) (by simp); have s0 : wG.cell? ⟨gA, 0, none⟩ = _ := hAG.cell 0; have s1 : wG.cell? ⟨gA, 1, none⟩ = _ := hAG.cell 1; have f0 : wG.frozen? ⟨gA, 0, none⟩ = false := hAG.free 0; have f1 : wG.frozen? ⟨gA, 1, none⟩ = false := hAG.free 1)
      have zAF := HAF.out.lt
      obtain ⟨WH, eWH⟩ : ∃ WH, WH = (wG.setCell ⟨gA, 0, none⟩ (.int .i64 rn)).setCell ⟨gA, 1, none⟩ (.slice aG nG cG) := ⟨_, rfl⟩
      rw [← eWH]
      have hAH : At WH gA 91 [.int .i64 rn, .slice aG nG cG] := by rw [eWH]; exact (hAG.setCell (o := 0) (.int .i64 rn)).setCell (o := 1) (.slice aG nG cG)
      have hKH : Kept [gA] wG WH := by rw [eWH]; exact ((Kept.refl _ wG).setCell (by simp) _).setCell (by simp) _
      have hBG := HUF.out.bel.trans (hbG.mono HUF.out.bel.size)
      have HBH := hid (hBG.trans (hKH.below hBG.size (fun y hy => by obtain rfl : y = gA := (by simpa using hy); exact hgA0)))
      have HGH : Hid (Gps WH aG rl) := hid (hGG.kept hKH (fun y hy hm => by have := hnG y hy; simp at hm; omega))
      have h1 : WH.cell? ⟨gA, 1, none⟩ = some (.slice aG nG cG) := hAH.cell 1
      have HMN := hid hmn
      have HLG := hid hlG
      clear eWH hAG hAH hKH hBG hGG hmn hlG hnG HAF HUF hbG s0 s1 f0 f1 hrp hgA0 zAF hmG
      go_wp2_with fail
      go_loopw [95] (fun vi wr => ∃ (i : Nat), i ≤ nG ∧ vi = .int .i64 (i : Int) ∧ wr = WH) (fun vi _ => nG - (intOf vi).toNat)
      case atStart => exact ⟨0, Nat.zero_le _, rfl, rfl⟩
      case round =>
        obtain ⟨j, hj, rfl, rfl⟩ := hrel
        by_cases hjn : j < nG
        · have hjl : j < rl.length := by rw [HLG.out]; exact hjn
          obtain ⟨bg, og, rfl, hcg⟩ := HGH.out (by intro e; rw [e] at hjl; simp at hjl)
          have c0 := (hcg j hjl).1
          have hne := HMN.out j hjl
          generalize (rl.getD j .zero).num = nm at *
          have hnb : (nm == -7) = false := by simpa using hne
          clear hcg hjl
          go_wp2_with fail
          go_roundw
          case rel => exact ⟨j + 1, by omega, by go_num, trivial⟩
          case measure => simp [intOf]; omega
        · have ej : j = nG := by omega
          subst ej
          have hgn := gnewS_ok 1 wr rfl
          clear h1 HGH HMN HLG hj hjn
          go_upto_region 28 with (go_at_call 8; refine hgn.mono ?_; rintro e wI ⟨rfl, hPI, hbI⟩)
          have HBI := hid (HBH.out.trans (hbI.mono HBH.out.size))
          have hgs := gsend_ok (d := { data := #[97] }) hPI (by decide) (by decide)
          have z0I := HBI.out.size
          have z0r := HBH.out.size
          clear hgn hbI
          go_upto_region 29 with (go_at_call 11; refine hgs.mono ?_; rintro e wJ ⟨rfl, hkJ, vJ, hPJ, hgJ⟩)
          have hFJ : ∀ y ∈ sdF wr.heap.size vJ, W0.heap.size ≤ y := fun y hy => by
            rcases List.mem_cons.1 hy with rfl | hy
            · exact z0r
            · rcases hgJ y hy with h | h
              · simp [blkG] at h
              · omega
          have HBJ := hid (HBI.out.trans (hkJ.below z0I (fun y hy => by
            rcases List.mem_cons.1 hy with rfl | hy
            · exact z0r
            · simp [blkG] at hy)))
          have hPJ : PSd wJ wr.heap.size vJ umS := hPJ
          have hmv := gmove_ok (k := 2) hPJ rfl
          have e1 : umS.wait.length = 1 := rfl
          unfold GmPost at hmv
          rw [e1] at hmv
          have hlJ := hPJ.lt
          clear hgs hkJ hgJ hPI HBI
          go_upto_region 30 with (go_at_call 15; refine hmv.mono ?_; rintro e wK ⟨G, rfl, hGK, hAK, hkK, hPK⟩)
          have HBK := hid (HBJ.out.trans (hkK.below HBJ.out.size hFJ))
          have z0J := HBJ.out.size
          have hzK : wJ.heap.size ≤ wK.heap.size := hkK.size
          have hsq := spoiltDPk ⟨-7, { data := #[] }, { data := #[] }⟩ _ 1 _ wJ.heap.size [G] wK (own_of_blockD (n := 1) (cap := 1) hGK hAK (Nat.le_refl _) (by unfold maxLen; omega) (by rw [List.size_toArray, cellsPk_length]; rfl)) hzK (fun k hk => by simpa using (show some G = some k from hk).symm) (by omega)
          clear hmv hkK hPJ
          go_upto_region 31 with (go_at_call 47; refine hsq.mono ?_; rintro e wL ⟨rfl, hkL⟩)
          have HBL := hid (HBK.out.trans (hkL.below HBK.out.size (fun y hy => by obtain rfl : y = G := (by simpa using hy); omega)))
          have hPL : PSd wL wr.heap.size vJ (umS.move 2) := hPK.kept hkL (fun y hy hm => by obtain rfl : y = G := (by simpa using hm); have := hlJ y hy; omega)
          have hmv := gmove_ok (k := 2) hPL rfl
          have e2 : (umS.move 2).wait.length = 1 := rfl
          unfold GmPost at hmv
          rw [e2] at hmv
          clear hsq hkL hPK hAK hPL hlJ
          go_upto_region 32 with (go_at_call 15; refine hmv.mono ?_; rintro e wM ⟨G2, rfl, -, hAM, hkM, -⟩)
          have HBM := hid (HBL.out.trans (hkM.below HBL.out.size hFJ))
          have z0M := HBM.out.size
          have hcn := cnew_good 9 wM (by decide) (by decide)
          rw [show ((9 : Nat) : Int) = 9 from rfl] at hcn
          clear hmv hkM hFJ
          go_upto_region 33 with (go_at_call 24; refine hcn.mono ?_; rintro e wN ⟨c, N, rfl, hcN, hfN, hbN⟩)
          have HBN := hid (HBM.out.trans (hbN.mono z0M))
          have t0 : wN.cell? ⟨G2, 0, none⟩ = some (.int .i64 0) := (hAM.kept (Kept.of_below (S := []) hbN) (by simp)).cell 0
          have hPN : PCo wN c (coF c N (.new 9)) (.new 9) 0 := ⟨N, rfl, hcN⟩
          generalize coF c N (.new 9) = FN at *
          have i1 : In64 1 := by unfold In64; omega
          have hjn := cjoin_any 5 hPN i1 (by unfold manyN; omega)
          clear hcn hcN hAM hbN
          go_upto_region 35 with fail
          have hFN : ∀ y ∈ FN, W0.heap.size ≤ y := fun y hy => Nat.le_trans z0M (hfN y hy)
          have zN := HBN.out.size
          clear hfN t0
          go_upto_region 36 with (go_at_call 31; refine hjn.mono ?_; rintro e wO ⟨rfl, hkO, FO, hPO, hgO⟩)
          have HBO := hid (HBN.out.trans (hkO.below zN hFN))
          have hFO : ∀ y ∈ FO, W0.heap.size ≤ y := fun y hy => (hgO y hy).elim (hFN y) (fun h => by omega)
          have zO := HBO.out.size
          have hat := cattach_co 3 hPO i1
          clear hjn hkO hgO hPN hFN
          go_upto_region 37 with (go_at_call 32; refine hat.mono ?_; rintro e wP ⟨rfl, hkP, FP, hPP, hgP⟩)
          have HBP := hid (HBO.out.trans (hkP.below zO hFO))
          have hFP : ∀ y ∈ FP, W0.heap.size ≤ y := fun y hy => (hgP y hy).elim (hFO y) (fun h => by omega)
          have zP := HBP.out.size
          have hsl := csleep_co hPP i1
          clear hat hkP hgP hPO hFO
          go_upto_region 38 with (go_at_call 48; refine hsl.mono ?_; rintro e wQ ⟨rfl, hkQ, FQ, hPQ, hgQ⟩)
          have HBQ := hid (HBP.out.trans (hkQ.below zP hFP))
          have hFQ : ∀ y ∈ FQ, W0.heap.size ≤ y := fun y hy => (hgQ y hy).elim (hFP y) (fun h => by omega)
          have zQ := HBQ.out.size
          have hPQ : PCo wQ c FQ umC 1 := hPQ
          have e8 : ([1, 2, 3, 4, 5, 6, 7, 8] : List Int).length = 8 := rfl
          have hpg := cpage_any hPQ i1
          unfold PagePost at hpg
          rw [umC_page, e8] at hpg
          have hlQ := pco_lt hPQ
          clear hsl hkQ hgQ hPP hFP
          go_upto_region 39 with (go_at_call 28; refine hpg.mono ?_; rintro e wR ⟨aR, cR, rfl, hoR, hbR⟩)
          have HBR := hid (HBQ.out.trans (hbR.mono zQ))
          have hsi := spoiltKI (-7) _ _ wQ.heap.size _ wR hoR hbR.size (fun k hk => Option.mem_toList.2 hk) (by decide)
          have hPR : PCo wR c FQ umC 1 := pco_kept hPQ (Kept.of_below (S := []) hbR) (by simp)
          have hsR : ∀ y ∈ (Value.slice aR 8 cR).ownBlock.toList, wQ.heap.size ≤ y := fun y hy => (World.ownsRow.lt hoR y (by simpa using hy)).1
          clear hpg hPQ
          go_upto_region 40 with (go_at_call 49; refine hsi.mono ?_; rintro e wS ⟨rfl, hkS⟩)
          have HBS := hid (HBR.out.trans (hkS.below HBR.out.size (fun y hy => Nat.le_trans zQ (hsR y hy))))
          have hPS : PCo wS c FQ umC 1 := pco_kept hPR hkS (fun y hy hm => by have := hlQ y hy; have := hsR y hm; omega)
          have zS := HBS.out.size
          have hpg := cpage_any hPS i1
          unfold PagePost at hpg
          rw [umC_page, e8] at hpg
          clear hsi hkS hPR hoR hbR hsR hlQ
          go_upto_region 41 with (go_at_call 28; refine hpg.mono ?_; rintro e wT ⟨aT, cT, rfl, hoT, hbT⟩)
          have HBT := hid (HBS.out.trans (hbT.mono zS))
          have zT := HBT.out.size
          obtain ⟨WU, eWU⟩ : ∃ WU, WU = wT.alloc (.cells #[.int .i64 1, .int .i64 2, .int .i64 3, .int .i64 4, .int .i64 5, .int .i64 6, .int .i64 7, .int .i64 8] 3) := ⟨_, rfl⟩
          have hbU : Below wT.heap.size wT WU := by rw [eWU]; exact (Below.refl _ wT).alloc (Nat.le_refl _) _
          have hoU : OwnI WU wT.heap.size (.slice (some ⟨wT.heap.size, 0, none⟩) 8 8) [1, 2, 3, 4, 5, 6, 7, 8] := by rw [eWU]; exact own_of_block (n := 8) (cap := 8) (Nat.le_refl _) (heap_alloc_new wT _) (Nat.le_refl _) (by unfold maxLen; omega) rfl
          have hsm := same_ints [1, 2, 3, 4, 5, 6, 7, 8] [1, 2, 3, 4, 5, 6, 7, 8] aT (some ⟨wT.heap.size, 0, none⟩) cT 8 WU (hoT.below hbU).rd hoU.rd (by unfold maxLen; decide) (by unfold maxLen; decide)
          rw [e8, eWU, decide_eq_true rfl] at hsm
          clear hpg hPS hoT hoU hbT
          go_wp2_with (go_at_call 30; refine hsm.mono ?_; rintro e wV ⟨rfl, hbV⟩)
          rw [← eWU] at hbV
          rw [← HP.out]
          have hBU := HBT.out.trans (hbU.mono zT)
          exact ⟨rfl, HB0.out.trans ((hBU.trans (hbV.mono hBU.size)).mono HB0.out.size)⟩
end Go.Proofs.Ytcnkcbipkchoiag
