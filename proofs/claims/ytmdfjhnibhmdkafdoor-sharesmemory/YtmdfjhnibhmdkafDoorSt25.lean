import Derived.Test.YtmdfjhnibhmdkafDoorSt24
namespace Go.Proofs.YtmdfjhnibhmdkafDoor
open Go.ChangeShapes Go.WideShapes Go.ChangeAt Go.RowKit
def lvAll (l : List ShM) (out : List Int) : List ShM := lvTo l (ordT l) out
set_option maxHeartbeats 1000000 in
theorem grant_bad (l : List ShM) (bl : List Int) (bytes : Int) (B g nb cb : Nat) (a : Option Addr) (v : Value) (w : World) (hP : PSh w B g v l) (hn : l.length ≤ 1000) (hR : Rd .i64 w a bl) (hnb : bl.length = nb) (hm : nb ≤ maxLen) (hG : ¬ grantOk l.length bl bytes) :
    Calls Tryd.prog 10 #[.pointer (some ⟨g, 0, none⟩), .slice a nb cb, .int .i64 bytes] w fun e w' => e = .returned (.tuple #[.slice none 0 0, .int .i64 1]) ∧ w = w' := by
  have hcg : Calls Tryd.prog 33 #[.pointer (some ⟨g, 0, none⟩), .slice a nb cb, .int .i64 bytes] w fun e w' => e = .returned (.int .i64 1) ∧ w = w' := (cgrant_any l bl bytes B g nb cb a v w hP hn hR hnb hm).mono fun e w' h => by
    obtain ⟨h1 | h1, h2⟩ := h
    · exact absurd h1.1 hG
    · exact ⟨h1.2, h2.symm⟩
  clear hP hR hG
  go_enter Tryd.func10, Tryd.ntmps10
  go_wp2_with (go_at_call 33; refine hcg.mono ?_; rintro e w1 ⟨rfl, rfl⟩)
  go_ret2
  exact ⟨rfl, rfl⟩
set_option maxRecDepth 100000 in
set_option maxHeartbeats 4000000 in
theorem grant_goodK (l : List ShM) (bl : List Int) (bytes : Int) (B g nb cb : Nat) (a : Option Addr) (v : Value) (w00 w : World) (hP : PSh w B g v l) (hn : l.length ≤ 1000) (hI : IdsApart l) (hlv : ∀ i, i < l.length → (l.getD i .zero).fits) (hB : w00.heap.size = B) (hR : Rd .i64 w00 a bl) (hbw : Below B w00 w) (hnb : bl.length = nb) (hm : nb ≤ maxLen) (hG : grantOk l.length bl bytes) :
    Calls Tryd.prog 10 #[.pointer (some ⟨g, 0, none⟩), .slice a nb cb, .int .i64 bytes] w fun e w' => ∃ gg, e = .returned (.tuple #[.slice (some ⟨gg, 0, none⟩) nb nb, .int .i64 0]) ∧ ArrAt .i64 3 w' gg (grantM (lvs l) bl bytes (ordT l)).out ∧ PSh w' B g v (lvAll l (grantM (lvs l) bl bytes (ordT l)).out) ∧ Below B w00 w' ∧ w.heap.size ≤ gg ∧ Kept (ownT v) w w' := by
  subst hB
  have hcg : Calls Tryd.prog 33 #[.pointer (some ⟨g, 0, none⟩), .slice a nb cb, .int .i64 bytes] w fun e w' => e = .returned (.int .i64 0) ∧ w = w' := (cgrant_any l bl bytes w00.heap.size g nb cb a v w hP hn (hR.below hbw) hnb hm).mono fun e w' h => by
    obtain ⟨h1 | h1, h2⟩ := h
    · exact ⟨h1.2, h2.symm⟩
    · exact absurd hG h1.1
  have htu := fun (wz : World) (hz : PSh wz w00.heap.size g v l) => turn_any l w00.heap.size g v wz hz hn hI
  have hgi := fun wz => giver_any bytes wz
  have hln : l.length = nb := by rw [← hG.1, hnb]
  have hby := of_decide_eq_true hG.2.1
  have HP := hid hP
  have HG := hid hG
  have HR := hid hR
  have HLV := hid hlv
  have HLN := hid hln
  have hn1 : nb ≤ 1000 := by omega
  have hgw := hP.lt
  have hvw : ∀ k, v.ownBlock = some k → k < w.heap.size := fun k hk => hP.own.lt_size hk
  rw [hln] at htu
  obtain ⟨by0, by1⟩ := hby
  clear hP hG hR hlv hI hn hnb hln hm
  go_enter Tryd.func10, Tryd.ntmps10
  go_wp2_with (first
    | (go_at_call 33; refine hcg.mono ?_; rintro e w1 ⟨rfl, rfl⟩)
    | (at_make; refine wpList_makeInts w00.heap.size w00 nb rfl _ _ rfl _ _ rfl rfl rfl rfl (by omega) hbw hbw.size ?_; intro wA hownA hbelA hltA hfrA)
    | (go_at_call 34; refine (hgi _).mono ?_; rintro e wB ⟨rfl, rfl⟩; have hbB : Below wA.heap.size wA (wA.alloc (.cells #[.int .i64 bytes] 3)) := (Below.refl _ wA).alloc (Nat.le_refl _) _; have hPB := (HP.out.below hfrA).below hbB)
    | (go_at_call 35; refine (htu _ hPB).mono ?_; rintro e wC ⟨go, rfl, haC, hgo, hbC⟩))
  have hsB : (wA.alloc (.cells #[.int .i64 bytes] 3)).heap.size = wA.heap.size + 1 := by simp
  have hA : Apart w00.heap.size w.heap.size g w.heap.size wA.heap.size go v := by
    have h1 := hbw.size
    rw [hsB] at hgo
    refine ⟨h1, by omega, by omega, by omega, by omega, by omega, by omega, ?_, ?_, ?_, Nat.le_refl _, by omega⟩ <;> (intro e; have := hvw _ e; omega)
  have hGC : GrA w00 w wC w00.heap.size g w.heap.size wA.heap.size go v l (List.replicate nb 0) bytes (ordT l) := by
    have h1 := hownA.arr.1
    rw [hsB] at hbC hgo
    refine ⟨hPB.below (by rw [hsB]; exact hbC), ?_, ?_, haC, ?_, ?_⟩
    · exact (h1.alloc _).below hbC (by omega)
    · exact (hbC.block _ (by omega)).trans (heap_alloc_new wA _)
    · exact (hbelA.alloc hbelA.size _).trans (hbC.mono (by have := hbelA.size; omega))
    · exact Kept.of_below ((hfrA.alloc hfrA.size _).trans (hbC.mono (by have := hfrA.size; omega)))
  clear hownA hbelA hfrA hbB hPB haC hgo hbC hsB hcg htu hgi hvw hgw
  go_loopw [32] (fun q wr => ∃ k : Nat, k ≤ nb ∧ q = .int .i64 k ∧ GrA w00 w wr w00.heap.size g w.heap.size wA.heap.size go v l (S1 l bl bytes k).out (S1 l bl bytes k).left (ordT l)) (fun q _ => nb - (intOf q).toNat)
  case atStart => exact ⟨0, by omega, rfl, by
    have e : S1 l bl bytes 0 = ⟨List.replicate nb 0, bytes⟩ := by unfold S1; rw [HG.out.1, HLN.out]; rfl
    rw [e]; exact hGC⟩
  case round =>
    clear hGC
    obtain ⟨k, hk, rfl, hS⟩ := hrel
    by_cases hlt : k < nb
    · have hkl : k < l.length := by rw [HLN.out]; exact hlt
      have hko : k < (ordT l).length := by rw [ordT_length]; exact hkl
      have hil := ordT_at hkl
      have hstep := S1_step HG.out hkl
      have hok := S1_ok HG.out k
      obtain ⟨hl0, hl1⟩ := ok_left hok
      have hc := hS.ord.cell (j := k) (by rw [ints_lengthG]; exact hko)
      rw [ints_atG] at hc
      obtain ⟨i, ei⟩ : ∃ i, i = (ordT l).getD k 0 := ⟨_, rfl⟩
      rw [← ei] at hc hil hstep
      have hib : i < bl.length := by rw [HG.out.1]; exact hil
      obtain ⟨b, o, rfl, hRC⟩ := HR.out.at hib
      have q0 := hRC i hib
      have hblt := World.block_lt_of_cell? w00 _ q0
      simp only at hblt
      have q0 := (hS.bel.cell (World.block_lt_of_cell? w00 _ q0)).trans q0
      have hbi := of_decide_eq_true (HG.out.2.2 i hib)
      obtain ⟨gb, c, rfl, hgbB, -, hC⟩ := hS.P.own.at (by omega)
      obtain ⟨⟨-, -, -, -, c4⟩, -⟩ := hC i hil
      have p0 := hS.P.cell
      have hlvf := (HLV.out i hil).1
      have ho := hS.out.cell (j := i) (by rw [hok.len]; exact hib)
      have hof := hS.out.free i
      have hx0 := hS.box.cell (j := 0) (by simp)
      have hxf := hS.box.free 0
      have hx0 : wr.cell? ⟨wA.heap.size, 0, none⟩ = some (.int .i64 (S1 l bl bytes k).left) := hx0
      obtain ⟨S, eS⟩ : ∃ S, S = S1 l bl bytes k := ⟨_, rfl⟩
      rw [← eS] at hstep hl0 hl1 ho hx0 hS hok
      obtain ⟨z, ez⟩ : ∃ z, z = bl.getD i 0 := ⟨_, rfl⟩
      obtain ⟨t, et⟩ : ∃ t, t = (l.getD i .zero).lv := ⟨_, rfl⟩
      obtain ⟨u, eu⟩ : ∃ u, u = S.out.getD i 0 := ⟨_, rfl⟩
      rw [← ez] at hstep q0 hbi
      rw [← et] at hstep c4 hlvf
      rw [← eu] at ho
      obtain ⟨m, em⟩ : ∃ m, m = min (min z (max t 0)) S.left := ⟨_, rfl⟩
      rw [← em] at hstep
      have hm0 : 0 ≤ m := by omega
      have hm1 : m ≤ 1000000 := by omega
      have HST := hid hstep
      have hgv := give_any (min z (max t 0)) S.left wA.heap.size wr.drew hx0 hxf (by omega) (by omega) hl0 (by omega)
      rw [← em] at hgv
      have HNX := hid ((hS.drew.setBox hA (S.left - m)).setOut hA i m)
      have hil' : i < nb := by rw [← HLN.out]; exact hil
      have ii0 : (0 : Int) ≤ (i : Int) := by omega
      have iin : (i : Int) < (nb : Int) := by omega
      have n1 : wA.heap.size ≠ b := by have := hA.a2; omega
      have n2 : wA.heap.size ≠ g := fun e => hA.a7 e.symm
      have n3 : wA.heap.size ≠ gb := fun e => hA.v2 (by rw [← e]; rfl)
      have n4 : wA.heap.size ≠ w.heap.size := fun e => hA.a3 e.symm
      have m1 : w.heap.size ≠ b := by have := hA.a1; omega
      have m2 : w.heap.size ≠ g := fun e => hA.a6 e.symm
      have m3 : w.heap.size ≠ gb := fun e => hA.v1 (by rw [← e]; rfl)
      have m5 := fun h => m1 (Eq.symm h)
      have m6 := fun h => m2 (Eq.symm h)
      have m7 := fun h => m3 (Eq.symm h)
      have hoS := (hS.drew.setBox hA (S.left - m)).out
      have st0 := hoS.cell (j := i) (by rw [hok.len]; exact hib)
      rw [← eu] at st0
      have st1 := hoS.free i
      have n5 := fun h => n1 (Eq.symm h)
      have n6 := fun h => n2 (Eq.symm h)
      have n7 := fun h => n3 (Eq.symm h)
      have n8 := fun h => n4 (Eq.symm h)
      rw [HLN.out] at p0
      clear hoS hstep hRC hC hkl hko hil hib hok eS ez et eu em ei hblt hS
      go_upto_region 10 with fail
      go_region_held3 (fun w' => w'.cell? ⟨b, o + i, none⟩ = some (.int .i64 z) ∧ w'.cell? ⟨g, 0, none⟩ = some (.slice (some ⟨gb, 0, none⟩) nb c) ∧ w'.cell? ⟨gb, i * 5 + 4, none⟩ = some (.int .i64 t)) (go_keep) (first | (go_at_call 52; refine hgv.mono ?_; rintro e w1 ⟨rfl, rfl⟩))
      go_wp2_with fail
      go_roundw
      case rel => exact ⟨k + 1, by omega, by go_num, by rw [HST.out]; exact HNX.out⟩
      case measure => simp [intOf]; omega
    · have e : k = nb := by omega
      subst e
      have hG2 : GrA w00 w wr w00.heap.size g w.heap.size wA.heap.size go v (lvTo l ((ordT l).take 0) (S2 l bl bytes 0).out) (S2 l bl bytes 0).out (S2 l bl bytes 0).left (ordT l) := by
        have e0 : S2 l bl bytes 0 = S1 l bl bytes k := by unfold S2; rw [HLN.out]; rfl
        rw [e0, List.take_zero, lvTo_none]
        exact hS
      clear hS
      go_wp2_with fail
      go_loopw [58] (fun q wq => ∃ j : Nat, j ≤ k ∧ q = .int .i64 j ∧ GrA w00 w wq w00.heap.size g w.heap.size wA.heap.size go v (lvTo l ((ordT l).take j) (S2 l bl bytes j).out) (S2 l bl bytes j).out (S2 l bl bytes j).left (ordT l)) (fun q _ => k - (intOf q).toNat)
      case atStart => exact ⟨0, by omega, rfl, hG2⟩
      case round =>
        clear hG2
        obtain ⟨j, hj, rfl, hS⟩ := hrel
        by_cases hjt : j < k
        · have hkl : j < l.length := by rw [HLN.out]; exact hjt
          have hko : j < (ordT l).length := by rw [ordT_length]; exact hkl
          have hil := ordT_at hkl
          have hstep := S2_step HG.out hkl
          have hok := S2_ok HG.out j
          obtain ⟨hl0, hl1⟩ := ok_left hok
          have hnb := not_before (ordT_nodup l) hko
          have hlvs := lvTo_set (l := l) (ord := ordT l) (out := (S2 l bl bytes j).out) (k := j) (ordT_nodup l) hko hil (by rw [hok.len, HG.out.1]; exact hil)
          have hc := hS.ord.cell (j := j) (by rw [ints_lengthG]; exact hko)
          rw [ints_atG] at hc
          obtain ⟨i, ei⟩ : ∃ i, i = (ordT l).getD j 0 := ⟨_, rfl⟩
          rw [← ei] at hc hil hstep hnb hlvs
          have hib : i < bl.length := by rw [HG.out.1]; exact hil
          obtain ⟨b, o, rfl, hRC⟩ := HR.out.at hib
          have q0 := hRC i hib
          have hblt := World.block_lt_of_cell? w00 _ q0
          simp only at hblt
          have q0 := (hS.bel.cell (World.block_lt_of_cell? w00 _ q0)).trans q0
          have hbi := of_decide_eq_true (HG.out.2.2 i hib)
          have hue := hok.each i hib
          have hill : i < (lvTo l ((ordT l).take j) (S2 l bl bytes j).out).length := by rw [lvTo_length]; exact hil
          obtain ⟨gb, c, ev, hgbB, -, hC⟩ := hS.P.own.at (by omega)
          rw [lvTo_length] at ev
          subst ev
          obtain ⟨⟨-, -, -, -, c4⟩, z4⟩ := hC i hill
          rw [lvTo_at hil, if_neg hnb] at c4
          have p0 := hS.P.cell
          have hlvf := (HLV.out i hil).1
          have ho := hS.out.cell (j := i) (by rw [hok.len]; exact hib)
          have hof := hS.out.free i
          have hx0 : wr.cell? ⟨wA.heap.size, 0, none⟩ = some (.int .i64 (S2 l bl bytes j).left) := hS.box.cell (j := 0) (by simp)
          have hxf := hS.box.free 0
          obtain ⟨S, eS⟩ : ∃ S, S = S2 l bl bytes j := ⟨_, rfl⟩
          rw [← eS] at hstep hl0 hl1 ho hx0 hS hok hlvs hue hill
          obtain ⟨z, ez⟩ : ∃ z, z = bl.getD i 0 := ⟨_, rfl⟩
          obtain ⟨t, et⟩ : ∃ t, t = (l.getD i .zero).lv := ⟨_, rfl⟩
          obtain ⟨u, eu⟩ : ∃ u, u = S.out.getD i 0 := ⟨_, rfl⟩
          rw [← ez] at hstep q0 hbi hue
          rw [← et] at c4 hlvf hlvs
          rw [← eu] at ho hstep hue
          obtain ⟨m, em⟩ : ∃ m, m = min (z - u) S.left := ⟨_, rfl⟩
          rw [← em] at hstep
          have hm0 : 0 ≤ m := by omega
          have hm1 : m ≤ 1000000 := by omega
          have HST := hid hstep
          have hgv := give_any (z - u) S.left wA.heap.size wr.drew hx0 hxf (by omega) (by omega) hl0 (by omega)
          rw [← em] at hgv
          have HLS := hid (hlvs (u + m))
          have HLA : Hid ((lvTo l ((ordT l).take j) S.out).getD i .zero = l.getD i .zero) := by show _ = _; rw [lvTo_at hil, if_neg hnb]
          have HIL := hid hill
          have hil' : i < k := by rw [← HLN.out]; exact hil
          have ii0 : (0 : Int) ≤ (i : Int) := by omega
          have iin : (i : Int) < (k : Int) := by omega
          have n1 : wA.heap.size ≠ b := by have := hA.a2; omega
          have n2 : wA.heap.size ≠ g := fun e => hA.a7 e.symm
          have n4 : wA.heap.size ≠ w.heap.size := fun e => hA.a3 e.symm
          have m1 : w.heap.size ≠ b := by have := hA.a1; omega
          have m2 : w.heap.size ≠ g := fun e => hA.a6 e.symm
          have m5 := fun h => m1 (Eq.symm h)
          have m6 := fun h => m2 (Eq.symm h)
          have hoS := (hS.drew.setBox hA (S.left - m)).out
          have st0 := hoS.cell (j := i) (by rw [hok.len]; exact hib)
          rw [← eu] at st0
          have st1 := hoS.free i
          have n5 := fun h => n1 (Eq.symm h)
          have n6 := fun h => n2 (Eq.symm h)
          have n8 := fun h => n4 (Eq.symm h)
          have HS := hid hS
          have HM := hid em
          have HT := hid et
          have HU := hid eu
          have HOL : Hid (i < S.out.length) := by show _ < _; rw [hok.len]; exact hib
          rw [HLN.out] at p0 HS hA
          clear hoS hstep hRC hC hkl hko hib hok eS ez et eu em ei hblt hS hlvs hnb hill hil
          have hmix : Tryd.prog.follows .mixedOrders = true := by kernel_rfl
          have HO0 : Hid (wr.cell? ⟨w.heap.size, 0 + i, none⟩ = some (.int .i64 u)) := by show _ = _; rw [Nat.zero_add]; exact ho
          have HQ0 := hid q0
          have HGB : Hid (w.heap.size ∉ [wA.heap.size]) := by show _ ∉ _; simp; exact hA.a3
          have HBB : Hid (b ∉ [wA.heap.size]) := by show _ ∉ _; simp; exact n5
          have HIL' := hid hil'
          have HENT : Hid (Enters Tryd.prog 52) := enters_of Tryd.func52 (by kernel_rfl) rfl
          have HGV : Hid (∀ wc, Below wr.heap.size wr wc → Calls Tryd.prog 52 (#[.int .i64 (z - u)] ++ #[.pointer (some ⟨wA.heap.size, 0, none⟩)]) wc fun e w' => e = .returned (.int .i64 m) ∧ Kept [wA.heap.size] wc w' ∧ ArrAt .i64 3 w' wA.heap.size [S.left - m]) := fun wc hb => by
            have hbx := HS.out.box.below hb HS.out.box.lt
            have hg := give_any (z - u) S.left wA.heap.size wc (hbx.cell (j := 0) (by simp)) (hbx.free 0) (by omega) (by omega) hl0 (by omega)
            rw [← HM.out] at hg
            refine hg.mono fun e w' h => ⟨h.1, ?_, ?_⟩
            · rw [h.2]; exact (Kept.refl _ wc).setCell (by simp) _
            · rw [h.2]; exact hbx.set 0 _
          have HOC : Hid (∀ wc, GrA w00 w wc w00.heap.size g w.heap.size wA.heap.size go (.slice (some ⟨gb, 0, none⟩) k c) (lvTo l ((ordT l).take j) S.out) S.out (S.left - m) (ordT l) → wc.cell? ⟨w.heap.size, 0 + i, none⟩ = some (.int .i64 u)) := fun wc h => by
            rw [Nat.zero_add, HU.out]
            exact h.out.cell HOL.out
          clear n1 n2 n4 n5 n6 n8 m1 m2 m5 m6 st0 st1 hgv
          go_upto_region 15 with fail
          refine wp_mono (region_knownU (Q := fun e a' w' => e = .normal ∧ a' = ({ tmps := (setAll _ [(62, .slice (some ⟨w.heap.size, 0, none⟩) k k), (63, .int .i64 (i : Int)), (64, .pointer (some ⟨w.heap.size, 0 + i, none⟩)), (65, .int .i64 u), (66, .func (.func 52) #[] #[.pointer (some ⟨wA.heap.size, 0, none⟩)]), (67, .slice (some ⟨b, o, none⟩) k cb), (68, .int .i64 (i : Int)), (69, .pointer (some ⟨b, o + i, none⟩)), (70, .int .i64 z), (71, .slice (some ⟨w.heap.size, 0, none⟩) k k), (72, .int .i64 (i : Int)), (73, .pointer (some ⟨w.heap.size, 0 + i, none⟩)), (74, .int .i64 u), (75, .int .i64 (z - u)), (76, .int .i64 m), (77, .int .i64 (u + m)), (78, .pointer (some ⟨w.heap.size, 0 + i, none⟩))]).toArray, defers := [] } : Act) ∧ GrA w00 w w' w00.heap.size g w.heap.size wA.heap.size go (.slice (some ⟨gb, 0, none⟩) k c) (lvTo l ((ordT l).take j) S.out) (S.out.set i (u + m)) (S.left - m) (ordT l)) 18 17 14 [wA.heap.size] (fun wc => ArrAt .i64 3 wc wA.heap.size [S.left - m]) [(62, .slice (some ⟨w.heap.size, 0, none⟩) k k), (63, .int .i64 (i : Int)), (64, .pointer (some ⟨w.heap.size, 0 + i, none⟩)), (65, .int .i64 u), (66, .func (.func 52) #[] #[.pointer (some ⟨wA.heap.size, 0, none⟩)]), (67, .slice (some ⟨b, o, none⟩) k cb), (68, .int .i64 (i : Int)), (69, .pointer (some ⟨b, o + i, none⟩)), (70, .int .i64 z), (71, .slice (some ⟨w.heap.size, 0, none⟩) k k), (72, .int .i64 (i : Int)), (73, .pointer (some ⟨w.heap.size, 0 + i, none⟩)), (74, .int .i64 u), (75, .int .i64 (z - u)), (76, .int .i64 m), (77, .int .i64 (u + m)), (78, .pointer (some ⟨w.heap.size, 0 + i, none⟩))]
            [[9], [15], [62, 63], [64], [10], [1], [15], [67, 68], [69], [9], [15], [71, 72], [73], [70, 74], [66, 75], [65, 76], [62, 63]] [2, 2, 3, 15, 14, 7, 7, 8, 13, 11, 11, 12, 13, 14, 15, 17, 17] wr hmix rfl (by decide) rfl (show ([62, 63, 64, 65, 66, 67, 68, 69, 70, 71, 72, 73, 74, 75, 76, 77, 78] : List Nat).Nodup by decide) (by kernel_rfl) (by kernel_rfl) (by kernel_rfl) (by kernel_rfl) (by kernel_rfl) (by kernel_rfl) (fun _ _ h hk => h.kept hk (by simp))
            (fun i' hi' hiu ac wc hk hr Q K hK => by
              have hor : i' = 0 ∨ i' = 1 ∨ i' = 2 ∨ i' = 3 ∨ i' = 4 ∨ i' = 5 ∨ i' = 6 ∨ i' = 7 ∨ i' = 8 ∨ i' = 9 ∨ i' = 10 ∨ i' = 11 ∨ i' = 12 ∨ i' = 13 ∨ i' = 14 ∨ i' = 15 ∨ i' = 16 := by omega
              rcases hor with rfl | rfl | rfl | rfl | rfl | rfl | rfl | rfl | rfl | rfl | rfl | rfl | rfl | rfl | rfl | rfl | rfl
              · have e9 : ac.eval (.tmp 9) = .slice (some ⟨w.heap.size, 0, none⟩) k k := hr 9 (by decide)
                exact op_value rfl rfl (run_moveQ wc rfl e9) (hK wc (keptU wc))
              · have e15 : ac.eval (.tmp 15) = .int .i64 (i : Int) := hr 15 (by decide)
                exact op_value rfl rfl (run_moveQ wc rfl e15) (hK wc (keptU wc))
              · have e62 : ac.eval (.tmp 62) = .slice (some ⟨w.heap.size, 0, none⟩) k k := hr 62 (by decide)
                have e63 : ac.eval (.tmp 63) = .int .i64 (i : Int) := hr 63 (by decide)
                exact op_value rfl rfl (run_ixInts wc rfl e62 e63 HIL'.out) (hK wc (keptU wc))
              · have e64 : ac.eval (.tmp 64) = .pointer (some ⟨w.heap.size, 0 + i, none⟩) := hr 64 (by decide)
                exact op_value rfl rfl (run_ldint wc rfl e64 (keptCell hk HO0.out HGB.out)) (hK wc (keptU wc))
              · have e10 : ac.eval (.tmp 10) = .func (.func 52) #[] #[.pointer (some ⟨wA.heap.size, 0, none⟩)] := hr 10 (by decide)
                exact op_value rfl rfl (run_moveQ wc rfl e10) (hK wc (keptU wc))
              · have e1 : ac.eval (.tmp 1) = .slice (some ⟨b, o, none⟩) k cb := hr 1 (by decide)
                exact op_value rfl rfl (run_moveQ wc rfl e1) (hK wc (keptU wc))
              · have e15 : ac.eval (.tmp 15) = .int .i64 (i : Int) := hr 15 (by decide)
                exact op_value rfl rfl (run_moveQ wc rfl e15) (hK wc (keptU wc))
              · have e67 : ac.eval (.tmp 67) = .slice (some ⟨b, o, none⟩) k cb := hr 67 (by decide)
                have e68 : ac.eval (.tmp 68) = .int .i64 (i : Int) := hr 68 (by decide)
                exact op_value rfl rfl (run_ixInts wc rfl e67 e68 HIL'.out) (hK wc (keptU wc))
              · have e69 : ac.eval (.tmp 69) = .pointer (some ⟨b, o + i, none⟩) := hr 69 (by decide)
                exact op_value rfl rfl (run_ldint wc rfl e69 (keptCell hk HQ0.out HBB.out)) (hK wc (keptU wc))
              · have e9 : ac.eval (.tmp 9) = .slice (some ⟨w.heap.size, 0, none⟩) k k := hr 9 (by decide)
                exact op_value rfl rfl (run_moveQ wc rfl e9) (hK wc (keptU wc))
              · have e15 : ac.eval (.tmp 15) = .int .i64 (i : Int) := hr 15 (by decide)
                exact op_value rfl rfl (run_moveQ wc rfl e15) (hK wc (keptU wc))
              · have e71 : ac.eval (.tmp 71) = .slice (some ⟨w.heap.size, 0, none⟩) k k := hr 71 (by decide)
                have e72 : ac.eval (.tmp 72) = .int .i64 (i : Int) := hr 72 (by decide)
                exact op_value rfl rfl (run_ixInts wc rfl e71 e72 HIL'.out) (hK wc (keptU wc))
              · have e73 : ac.eval (.tmp 73) = .pointer (some ⟨w.heap.size, 0 + i, none⟩) := hr 73 (by decide)
                exact op_value rfl rfl (run_ldint wc rfl e73 (keptCell hk HO0.out HGB.out)) (hK wc (keptU wc))
              · have e70 : ac.eval (.tmp 70) = .int .i64 z := hr 70 (by decide)
                have e74 : ac.eval (.tmp 74) = .int .i64 u := hr 74 (by decide)
                exact op_value rfl rfl (run_subint wc rfl e70 e74 (by rw [IntKind.wrap_i64]; omega)) (hK wc (keptU wc))
              · exact absurd rfl hiu
              · have e65 : ac.eval (.tmp 65) = .int .i64 u := hr 65 (by decide)
                have e76 : ac.eval (.tmp 76) = .int .i64 m := hr 76 (by decide)
                exact op_value rfl rfl (run_addint wc rfl e65 e76 (by rw [IntKind.wrap_i64]; omega)) (hK wc (keptU wc))
              · have e62 : ac.eval (.tmp 62) = .slice (some ⟨w.heap.size, 0, none⟩) k k := hr 62 (by decide)
                have e63 : ac.eval (.tmp 63) = .int .i64 (i : Int) := hr 63 (by decide)
                exact op_value rfl rfl (run_ixInts wc rfl e62 e63 HIL'.out) (hK wc (keptU wc)))
            (fun _ ac wc hb hr Q K hK => by
              have e66 : ac.eval (.tmp 66) = .func (.func 52) #[] #[.pointer (some ⟨wA.heap.size, 0, none⟩)] := hr 66 (by decide)
              have e75 : ac.eval (.tmp 75) = .int .i64 (z - u) := hr 75 (by decide)
              exact op_callV rfl rfl rfl HENT.out e66 (show (#[.tmp 75] : Array Operand).map ac.eval = #[.int .i64 (z - u)] by simp [e75]) (HGV.out wc hb) (fun e w' h => ⟨_, h.1, hK w' h.2.1 h.2.2⟩))
            (fun wc hk hu => by
              have hGK := HS.out.kept hA hk (hu (by decide))
              exact op_skipL rfl rfl (run_stI wc rfl ((eval_setAll (t := [(62, .slice (some ⟨w.heap.size, 0, none⟩) k k), (63, .int .i64 (i : Int)), (64, .pointer (some ⟨w.heap.size, 0 + i, none⟩)), (65, .int .i64 u), (66, .func (.func 52) #[] #[.pointer (some ⟨wA.heap.size, 0, none⟩)]), (67, .slice (some ⟨b, o, none⟩) k cb), (68, .int .i64 (i : Int)), (69, .pointer (some ⟨b, o + i, none⟩)), (70, .int .i64 z), (71, .slice (some ⟨w.heap.size, 0, none⟩) k k), (72, .int .i64 (i : Int)), (73, .pointer (some ⟨w.heap.size, 0 + i, none⟩)), (74, .int .i64 u), (75, .int .i64 (z - u)), (76, .int .i64 m), (77, .int .i64 (u + m)), (78, .pointer (some ⟨w.heap.size, 0 + i, none⟩))]) 78 (show ([62, 63, 64, 65, 66, 67, 68, 69, 70, 71, 72, 73, 74, 75, 76, 77, 78] : List Nat).Nodup by decide) (by kernel_rfl)).trans rfl) ((eval_setAll (t := [(62, .slice (some ⟨w.heap.size, 0, none⟩) k k), (63, .int .i64 (i : Int)), (64, .pointer (some ⟨w.heap.size, 0 + i, none⟩)), (65, .int .i64 u), (66, .func (.func 52) #[] #[.pointer (some ⟨wA.heap.size, 0, none⟩)]), (67, .slice (some ⟨b, o, none⟩) k cb), (68, .int .i64 (i : Int)), (69, .pointer (some ⟨b, o + i, none⟩)), (70, .int .i64 z), (71, .slice (some ⟨w.heap.size, 0, none⟩) k k), (72, .int .i64 (i : Int)), (73, .pointer (some ⟨w.heap.size, 0 + i, none⟩)), (74, .int .i64 u), (75, .int .i64 (z - u)), (76, .int .i64 m), (77, .int .i64 (u + m)), (78, .pointer (some ⟨w.heap.size, 0 + i, none⟩))]) 77 (show ([62, 63, 64, 65, 66, 67, 68, 69, 70, 71, 72, 73, 74, 75, 76, 77, 78] : List Nat).Nodup by decide) (by kernel_rfl)).trans rfl) (HOC.out wc hGK) (hGK.out.free _)) ⟨rfl, rfl, by rw [Nat.zero_add]; exact hGK.setOut hA i (u + m)⟩)) ?_
          rintro e a' w5 ⟨rfl, rfl, hS5⟩
          dsimp only [setAll, List.set, List.append_nil, List.cons_append, List.nil_append]
          have p5 := hS5.P.cell
          obtain ⟨gb', c', ev5, -, -, hC5⟩ := hS5.P.own.at (by rw [lvTo_length, HLN.out]; omega)
          simp only [Value.slice.injEq, Option.some.injEq, Addr.mk.injEq, and_true] at ev5
          obtain ⟨rfl, -, rfl⟩ := ev5
          obtain ⟨⟨-, -, -, -, c5⟩, z5⟩ := hC5 i HIL.out
          rw [HLA.out, ← HT.out] at c5
          have o5 := hS5.out.cell (j := i) (by rw [List.length_set]; exact HOL.out)
          rw [getD_setI _ _ _ _ HOL.out, if_pos rfl] at o5
          have hS6 := hS5.setLv hA hgbB HIL.out (t - (u + m))
          rw [HLA.out, HLS.out] at hS6
          have HS6 := hid hS6
          have hu0 : 0 ≤ u := by omega
          have hu1 : u ≤ 1000000 := by omega
          obtain ⟨x, ex⟩ : ∃ x, x = u + m := ⟨_, rfl⟩
          have hx0 : 0 ≤ x := by omega
          have hx1 : x ≤ 2000000 := by omega
          rw [← ex] at o5 HS6
          have HX := hid ex
          clear hS5 hS6 hC5 c4 z4 ho hof ex
          go_upto_region 16 with fail
          go_region
          go_wp2_with fail
          go_roundw
          case rel => exact ⟨j + 1, by omega, by go_num, by rw [HST.out, ← HX.out, HLN.out]; exact HS6.out.drew⟩
          case measure => simp [intOf]; omega
        · have e : j = k := by omega
          subst e
          have hall : S2 l bl bytes j = grantM (lvs l) bl bytes (ordT l) := by rw [← HLN.out]; exact S_all l bl bytes
          have htk : (ordT l).take j = ordT l := List.take_of_length_le (by rw [ordT_length, HLN.out]; exact Nat.le_refl _)
          rw [hall, htk] at hS
          go_wp2_with fail
          go_ret2
          exact ⟨w.heap.size, rfl, hS.out, hS.P, hS.bel, Nat.le_refl _, hS.kp⟩
end Go.Proofs.YtmdfjhnibhmdkafDoor
