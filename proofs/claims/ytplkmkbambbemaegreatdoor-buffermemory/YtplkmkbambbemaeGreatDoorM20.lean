import Derived.Test.YtplkmkbambbemaeGreatDoorM19
import Derived.Test.YtplkmkbambbemaeGreatDoorM16
import Derived.Test.YtplkmkbambbemaeGreatDoorM17
import Derived.Test.YtplkmkbambbemaeGreatDoorM01
import Derived.Test.YtplkmkbambbemaeGreatDoorM02
import Derived.Test.YtplkmkbambbemaeGreatDoorM08
import Derived.OwnWalk
import Derived.Deep.CutRange
import Derived.Test.YtplkmkbambbemaeGreatDoorM15
import Derived.Test.YtplkmkbambbemaeGreatDoorM06
import Derived.Test.YtplkmkbambbemaeGreatDoorM05
namespace Go.Proofs.YtplkmkbambbemaeGreatDoor
open Go.ChangeShapes Go.WideShapes Go.ChangeAt Go.RowKit
set_option maxRecDepth 100000 in
set_option maxHeartbeats 4000000 in
/-- Points that may not be heard. -/
theorem ltake_bad {w : World} {b B : Nat} {F : List Nat} {S : Setg} {sm : List Int} (ps : List (Int × Int)) (a : Option Addr) (n c : Nat) (v : Int) (hE : EarP w ⟨b, 0, none⟩ F S B sm) (hP : Pts w a ps) (hn : ps.length = n) (hz : n ≤ 8796093022208) (hbad : earHears S ps v = false) :
    Calls Tryz.prog 15 #[.pointer (some ⟨b, 0, none⟩), .slice a n c, .int .i64 v] w fun e w' => e = .returned (Told.val ⟨ByteArray.empty, false, 1⟩) ∧ Below w.heap.size w w' := by
  have HCE : Hid (∀ wz, Below w.heap.size w wz → wz.cell? ⟨b, 1, none⟩ = some (.int .i64 S.code) ∧ wz.cell? ⟨b, 2, none⟩ = some (.int .i64 S.size) ∧ wz.cell? ⟨b, 3, none⟩ = some (.int .i64 S.order) ∧ wz.cell? ⟨b, 4, none⟩ = some (.int .i64 S.seed) ∧ wz.cell? ⟨b, 5, none⟩ = some (.int .i64 S.count) ∧ wz.cell? ⟨b, 6, none⟩ = some (.int .i64 (B : Int))) := fun wz hz => by
    obtain ⟨b', g, e, -, -, hbx, -⟩ := (hE.old hz).block
    cases e
    exact ear_cells hbx
  obtain ⟨c1, c2, c3, c4, c5, c6⟩ := HCE.out w (Below.refl _ _)
  have hver := fun wz => lversion_any v wz
  unfold verErr at hver
  unfold Told.val
  cases hv : verOk v with
  | false =>
    rw [hv] at hver
    clear hbad hE hP hv HCE
    go_enter Tryz.func15, Tryz.ntmps15
    go_wp2_with (first | (go_at_call 24; refine (hver _).mono ?_; rintro e w2 ⟨rfl, rfl⟩) | fail)
    go_ret3
    exact ⟨rfl, Below.refl _ _⟩
  | true =>
    rw [hv] at hver
    have hh : hearsOk ps S.order = false := by unfold earHears at hbad; rw [hv, Bool.true_and] at hbad; exact hbad
    have hhe := hear_bad ps S.order a c w hP (by omega) hh
    rw [hn] at hhe
    clear hbad hE hP hv HCE hh
    go_enter Tryz.func15, Tryz.ntmps15
    go_wp2_with (first | (go_at_call 24; refine (hver _).mono ?_; rintro e w2 ⟨rfl, rfl⟩) | (go_at_call 35; refine hhe.mono ?_; rintro e w3 ⟨rfl, hb3⟩) | fail)
    go_ret3
    exact ⟨rfl, hb3⟩
theorem heapLt {w : World} {g : Nat} {o : Obj} (h : w.heap[g]? = some o) : g < w.heap.size := (Array.getElem?_eq_some_iff.1 h).1
theorem ReadyL.kept {w w' : World} {L : List Nat} (h : ReadyL w) (hk : Kept L w w') (h1 : 1 ∉ L) (h2 : 2 ∉ L) (h3 : 0 ∉ L) : ReadyL w' := by
  obtain ⟨⟨T1, f1, e1⟩, ⟨T2, f2, e2⟩, ⟨T3, f3, e3⟩⟩ := h
  exact ⟨⟨T1, f1, (hk.block _ (heapLt e1) h1).trans e1⟩, ⟨T2, f2, (hk.block _ (heapLt e2) h2).trans e2⟩, ⟨T3, f3, (hk.block _ (heapLt e3) h3).trans e3⟩⟩
theorem no_table {w : World} {b g : Nat} {T T' : TypeId} {fr : Nat × Nat} {r : List Value} {k : IntKind} {x : Int} {l : List Value} {a : Option Addr} {n c : Nat} (h : w.heap[g]? = some (.cells (Value.int k x :: l).toArray T fr)) (hb : BoxR w b T' r (.slice a n c)) : g ∉ [b] := by
  intro hm
  obtain rfl : g = b := by simpa using hm
  have h2 : w.heap[g]? = some (.cells (Value.slice a n c :: r).toArray T' (0, 0)) := hb
  rw [h] at h2
  simp at h2
theorem softBd {l : List Int} (h : ∀ k, -1000 ≤ l.getD k 0 ∧ l.getD k 0 ≤ 1000) : softOk l = true := by
  unfold softOk
  refine List.all_eq_true.2 fun x hx => ?_
  obtain ⟨i, hi, rfl⟩ := List.getElem_of_mem hx
  have e : l.getD i 0 = l[i] := by simp [List.getD, hi]
  have := h i
  rw [e] at this
  exact decide_eq_true (by omega)
/-- What is heard of points, in the document's words. -/
theorem hear_law (ps : List (Int × Int)) (O n N : Nat) (a : Option Addr) (c : Nat) (w : World) (hP : Pts w a ps) (hn : ps.length = n) (hO : O = 2 ∨ O = 4 ∨ O = 6) (hN : N = n * O) (hok : hearsOk ps (O : Int) = true) :
    Calls Tryz.prog 35 #[.slice a n c, .int .i64 O] w fun e w' => ∃ g, e = .returned (.tuple #[.slice (some ⟨g, 0, none⟩) N N, .int .i64 0]) ∧ ArrAt .i64 3 w' g (heardM (O / 2) O ps ps.length) ∧ Below w.heap.size w w' := by
  have hok' := hok
  unfold hearsOk at hok'
  rw [Bool.and_eq_true, Bool.and_eq_true, decide_eq_true_eq] at hok'
  obtain ⟨⟨-, h4⟩, hsq⟩ := hok'
  have hN4 : N ≤ 4096 := by
    have h5 : ((ps.length * O : Nat) : Int) ≤ 4096 := by rw [Int.natCast_mul]; exact h4
    rw [hN, ← hn]; omega
  refine (hear_good ps (O / 2) O n N a c w hP (by omega) (by omega) (by omega) hn hN hN4 hok).mono fun e w' h => ?_
  obtain ⟨g, rfl, ho, hb⟩ := h
  refine ⟨g, rfl, ?_, hb⟩
  have e1 : pairsAll (hearM (O / 2)) (O / 2) ps n = heardM (O / 2) O ps ps.length := by
    subst hn
    have := pairs_heard (h := O / 2) (by omega) (by omega) (ps := ps) (fun k hk => by
      have e : ps.getD k (0, 0) = ps[k] := by simp [List.getD, hk]
      rw [e]
      exact List.all_eq_true.1 hsq _ (List.getElem_mem hk))
    rw [show 2 * (O / 2) = O by omega] at this
    exact this
  rw [← e1]
  exact ho.arr.1
set_option maxRecDepth 100000 in
set_option maxHeartbeats 4000000 in
theorem ltake_good {w : World} {b B : Nat} {F : List Nat} {S : Setg} {sm : List Int} (ps : List (Int × Int)) (a : Option Addr) (n c : Nat) (v : Int) (hR : ReadyL w) (hE : EarP w ⟨b, 0, none⟩ F S B sm) (hS : SetOk S B) (hsl : (sm.length : Int) = codedN S B) (hsm : softOk sm = true) (hP : Pts w a ps) (hn : ps.length = n) (_hz : n ≤ 8796093022208) (hgood : earHears S ps v = true) :
    Calls Tryz.prog 15 #[.pointer (some ⟨b, 0, none⟩), .slice a n c, .int .i64 v] w fun e w' => e = .returned (earSays S B sm ps v).val ∧ ∃ F', EarP w' ⟨b, 0, none⟩ F' S B (earNext S sm ps v) ∧ (∀ x ∈ F', x ∈ F ∨ w.heap.size ≤ x) ∧ Kept [b] w w' := by
  have hmix : Tryz.prog.follows .mixedOrders = true := by kernel_rfl
  have HCE : Hid (∀ wz, Below w.heap.size w wz → wz.cell? ⟨b, 1, none⟩ = some (.int .i64 S.code) ∧ wz.cell? ⟨b, 2, none⟩ = some (.int .i64 S.size) ∧ wz.cell? ⟨b, 3, none⟩ = some (.int .i64 S.order) ∧ wz.cell? ⟨b, 4, none⟩ = some (.int .i64 S.seed) ∧ wz.cell? ⟨b, 5, none⟩ = some (.int .i64 S.count) ∧ wz.cell? ⟨b, 6, none⟩ = some (.int .i64 (B : Int))) := fun wz hz => by
    obtain ⟨b', g, e, -, -, hbx, -⟩ := (hE.old hz).block
    cases e
    exact ear_cells hbx
  obtain ⟨c1, c2, c3, c4, c5, c6⟩ := HCE.out w (Below.refl _ _)
  have HRK : Hid (∀ w1, Kept [b] w w1 → ReadyL w1) := fun w1 hk => by
    obtain ⟨⟨T1, f1, e1⟩, ⟨T2, f2, e2⟩, ⟨T3, f3, e3⟩⟩ := id hR
    obtain ⟨b', g, e, -, -, hbx, -⟩ := hE.block
    cases e
    exact hR.kept hk (no_table e1 hbx) (no_table e2 hbx) (no_table e3 hbx)
  have hg2 : verOk v = true ∧ hearsOk ps S.order = true := by unfold earHears at hgood; rwa [Bool.and_eq_true] at hgood
  obtain ⟨hv, hh⟩ := hg2
  have hver := fun wz => lversion_any v wz
  rw [show verErr v = 0 by unfold verErr; rw [hv]; rfl] at hver
  have hod := hS.order
  have hct := hS.count
  have hsd := hS.seed
  obtain ⟨O, eO⟩ : ∃ O : Nat, S.order = O := ⟨S.order.toNat, by omega⟩
  obtain ⟨C, eC⟩ : ∃ C : Nat, S.count = C := ⟨S.count.toNat, by omega⟩
  obtain ⟨U, eU⟩ : ∃ U : Nat, S.seed = U := ⟨S.seed.toNat, by omega⟩
  rw [eO] at hh c3
  rw [eC] at c5
  obtain ⟨N, eN⟩ : ∃ N, N = n * O := ⟨_, rfl⟩
  have hhe := hear_law ps O n N a c w hP hn (by omega) eN hh
  have hN4 : N ≤ 4096 := by
    have h5 := (hears_few hh).1
    rw [hn, ← Int.natCast_mul, ← eN] at h5
    omega
  have hSay : earSays S B sm ps v = if (N : Int) ≠ (C : Int) then ⟨ByteArray.empty, false, 3⟩ else if softOk (nextM sm (tellM S ps) v) = false then ⟨ByteArray.empty, false, 2⟩ else tookM S B (nextM sm (tellM S ps) v) := by
    unfold earSays
    rw [hgood, if_neg (by simp), eO, eC, hn, eN, Int.natCast_mul]
  have hNxt : earNext S sm ps v = if (N : Int) ≠ (C : Int) ∨ softOk (nextM sm (tellM S ps) v) = false then sm else nextM sm (tellM S ps) v := by
    unfold earNext
    rw [hgood, eO, eC, hn, eN, Int.natCast_mul]
    simp
  by_cases hNC : N = C
  · have qN : ((N : Int) != (C : Int)) = false := by simp [hNC]
    subst hNC
    have hsay2 : earSays S B sm ps v = if softOk (nextM sm (tellM S ps) v) = false then ⟨ByteArray.empty, false, 2⟩ else tookM S B (nextM sm (tellM S ps) v) := by rw [hSay, if_neg (by simp)]
    have hnxt2 : earNext S sm ps v = if softOk (nextM sm (tellM S ps) v) = false then sm else nextM sm (tellM S ps) v := by rw [hNxt]; simp
    have hTel : tellM S ps = (List.range N).map fun i => signM (clipM ((heardM (O / 2) O ps ps.length).getD i 0)) ((noiseTo U N).getD i 0) := by
      unfold tellM
      rw [eO, eC, eU, Int.toNat_natCast, Int.toNat_natCast, Int.toNat_natCast]
    have hTb := tell_bd S ps
    have hTl : (tellM S ps).length = N := by rw [tellM_length, eC, Int.toNat_natCast]
    obtain ⟨T, eT⟩ : ∃ T, T = tellM S ps := ⟨_, rfl⟩
    rw [← eT] at hTel hTb hTl hsay2 hnxt2
    have hTs := softBd hTb
    have htel : tellOk T v = true := by unfold tellOk; rw [hTs, hv, hTl, decide_eq_true hN4]; rfl
    obtain ⟨M, eM, hM1, hM4⟩ := codedN_nat hS
    have had : ∀ (wz : World), Below w.heap.size w wz → ∀ g, ArrAt .i64 3 wz g T → Calls Tryz.prog 7 #[.pointer (some ⟨b, 0, none⟩), .slice (some ⟨g, 0, none⟩) N N, .int .i64 v] wz fun e w' => ∃ S', e = .returned (.int .i64 (addErr sm T v)) ∧ BufR 72 (earTail S B) w' ⟨b, 0, none⟩ S' (addM sm T v) ∧ (∀ x ∈ S', x ∈ F ∨ wz.heap.size ≤ x) ∧ Kept [b] wz w' := fun wz hz g ha => by
      have h := add_any (some ⟨g, 0, none⟩) N T v (hR.below hz).col (hE.old hz) (by omega) (by omega) hsm (ArrAt.rdL ha) (by rw [hTl]; unfold maxLen; omega)
      rw [hTl] at h
      exact h
    have hun : ∀ (wz : World) (g : Nat), Rd .i64 wz (some ⟨g, 0, none⟩) (heardM (O / 2) O ps ps.length) → Calls Tryz.prog 36 #[.slice (some ⟨g, 0, none⟩) N N, .int .i64 (U : Int)] wz fun e w' => ∃ g', e = .returned (.slice (some ⟨g', 0, none⟩) N N) ∧ OwnI w' wz.heap.size (.slice (some ⟨g', 0, none⟩) N N) T ∧ Below wz.heap.size wz w' := fun wz g hr => by
      have hhl : (heardM (O / 2) O ps ps.length).length = N := by
        rw [heardM_length _ _ _ _ (Nat.le_refl _), hn, eN]
      have h := uncover_any (heardM (O / 2) O ps ps.length) N U (some ⟨g, 0, none⟩) N wz hr hhl (by omega) hN4 (by omega)
      rw [← hTel] at h
      exact h
    have HU := hid eU
    have HC5 : Hid (S.count = (N : Int)) := eC
    clear hTel hTb eM hM1 hM4 hSay hNxt hgood hh hv eO eC eU hod hsd hTs eT eN
    have hsum : ∀ {w1 : World} {F' : List Nat} {X : List Int}, BufR 72 (earTail S B) w1 ⟨b, 0, none⟩ F' X → EarP w1 ⟨b, 0, none⟩ F' S B X := fun h => h
    cases hq : softOk (nextM sm T v) with
    | false =>
      have hae : addErr sm T v = 2 := by unfold addErr; rw [htel, hq]; rfl
      have ham : addM sm T v = sm := by unfold addM; rw [htel, hq]; rfl
      rw [hsay2, hnxt2, if_pos hq, if_pos hq]
      unfold Told.val
      clear hq htel hsay2 hnxt2
      go_enter Tryz.func15, Tryz.ntmps15
      go_wp2_with (first | (go_at_call 24; refine (hver _).mono ?_; rintro e w2 ⟨rfl, rfl⟩) | (go_at_call 35; refine hhe.mono ?_; rintro e wh ⟨gh, rfl, hah, hbh⟩; have hrh := ArrAt.rdL hah; obtain ⟨d1, d2, d3, d4, d5, d6⟩ := HCE.out wh hbh; rw [HC5.out] at d5) | fail)
      refine wp_mono (region_each (Q := fun e a' w' => e = .normal ∧ ∃ σ : Nat → Value, a' = ({ tmps := (((setAll _ (tbS [38, 39, 40, 41, 42, 43, 44, 45, 46, 47, 48] 11 σ)).set 49 (.int .i64 (addErr sm T v))).set 11 (.int .i64 (addErr sm T v))).toArray, defers := [] } : Act) ∧ ∃ F', BufR 72 (earTail S B) w' ⟨b, 0, none⟩ F' (addM sm T v) ∧ (∀ x ∈ F', x ∈ F ∨ w.heap.size ≤ x) ∧ Kept [b] w w') 13 11 [38, 39, 40, 41, 42, 43, 44, 45, 46, 47, 48]
        [[0], [38], [39], [10], [0], [42], [43], [44], [45], [41, 46], [2]] [1, 2, 11, 9, 5, 6, 7, 8, 9, 11, 11]
        [eqR (.pointer (some ⟨b, 0, none⟩)), eqR (.pointer (some ⟨b, 0, none⟩)), eqR (.pointer (some ⟨b, 0, none⟩)), eqR (.slice (some ⟨gh, 0, none⟩) N N), eqR (.pointer (some ⟨b, 0, none⟩)), eqR (.pointer (some ⟨b, 0, none⟩)), eqR (.pointer (some ⟨b, 0 + 1, none⟩)), eqR (.pointer (some ⟨b, 0 + 1 + 3, none⟩)), eqR (.int .i64 (U : Int)), sumR N T, eqR (.int .i64 v)] wh hmix rfl (by decide) rfl (by decide) (by kernel_rfl) (by kernel_rfl) (by kernel_rfl) (by kernel_rfl) (by kernel_rfl) (by kernel_rfl)
        (by intro R hR; simp only [List.mem_cons, List.not_mem_nil, or_false] at hR; rcases hR with rfl | rfl | rfl | rfl | rfl | rfl | rfl | rfl | rfl | rfl | rfl <;> (first | (exact eqR_mono _) | (exact sumR_mono _ _)))
        (fun i' hi' σ ac wc hbc hp hr Q K hK => by
          have hor : i' = 0 ∨ i' = 1 ∨ i' = 2 ∨ i' = 3 ∨ i' = 4 ∨ i' = 5 ∨ i' = 6 ∨ i' = 7 ∨ i' = 8 ∨ i' = 9 ∨ i' = 10 := by omega
          rcases hor with rfl | rfl | rfl | rfl | rfl | rfl | rfl | rfl | rfl | rfl | rfl
          · have e0 := hr 0 (by decide)
            exact op_value rfl rfl (run_moveQ wc rfl e0) (hK _ wc (grownL wc) rfl)
          · have e38 : ac.eval (.tmp 38) = (.pointer (some ⟨b, 0, none⟩)) := (hr 38 (by decide)).trans (hp 0 (by decide) (by kernel_rfl))
            exact op_value rfl rfl (run_nilL wc rfl e38) (hK _ wc (grownL wc) rfl)
          · have e39 : ac.eval (.tmp 39) = (.pointer (some ⟨b, 0, none⟩)) := (hr 39 (by decide)).trans (hp 1 (by decide) (by kernel_rfl))
            exact op_value rfl rfl (run_fldLink0 wc rfl e39) (hK _ wc (grownL wc) rfl)
          · have e10 := hr 10 (by decide)
            exact op_value rfl rfl (run_moveQ wc rfl e10) (hK _ wc (grownL wc) rfl)
          · have e0 := hr 0 (by decide)
            exact op_value rfl rfl (run_moveQ wc rfl e0) (hK _ wc (grownL wc) rfl)
          · have e42 : ac.eval (.tmp 42) = (.pointer (some ⟨b, 0, none⟩)) := (hr 42 (by decide)).trans (hp 4 (by decide) (by kernel_rfl))
            exact op_value rfl rfl (run_nilL wc rfl e42) (hK _ wc (grownL wc) rfl)
          · have e43 : ac.eval (.tmp 43) = (.pointer (some ⟨b, 0, none⟩)) := (hr 43 (by decide)).trans (hp 5 (by decide) (by kernel_rfl))
            exact op_value rfl rfl (run_fldLink1 wc rfl e43) (hK _ wc (grownL wc) rfl)
          · have e44 : ac.eval (.tmp 44) = (.pointer (some ⟨b, 0 + 1, none⟩)) := (hr 44 (by decide)).trans (hp 6 (by decide) (by kernel_rfl))
            exact op_value rfl rfl (run_fldSet3 wc rfl e44) (hK _ wc (grownL wc) rfl)
          · have e45 : ac.eval (.tmp 45) = (.pointer (some ⟨b, 0 + 1 + 3, none⟩)) := (hr 45 (by decide)).trans (hp 7 (by decide) (by kernel_rfl))
            obtain ⟨-, -, -, c4, -, -⟩ := HCE.out wc (hbh.trans (hbc.mono hbh.size))
            exact op_value rfl rfl (run_loadI wc rfl e45 (HU.out ▸ c4)) (hK _ wc (grownL wc) rfl)
          · have e41 : ac.eval (.tmp 41) = (.slice (some ⟨gh, 0, none⟩) N N) := (hr 41 (by decide)).trans (hp 3 (by decide) (by kernel_rfl))
            have e46 : ac.eval (.tmp 46) = (.int .i64 (U : Int)) := (hr 46 (by decide)).trans (hp 8 (by decide) (by kernel_rfl))
            refine op_callNL rfl rfl rfl (enters_of Tryz.func36 (by kernel_rfl) rfl) (map2L e41 e46) (hun wc _ (hrh.below hbc)) fun e w' hr' => ?_
            obtain ⟨g47, rfl, ho47, hb'⟩ := hr'
            exact ⟨_, rfl, hK _ w' (grown_of_below hb') (show sumR N T _ _ from ⟨g47, rfl, ho47.arr.1⟩)⟩
          · have e2 := hr 2 (by decide)
            exact op_value rfl rfl (run_moveQ wc rfl e2) (hK _ wc (grownL wc) rfl))
        (fun σ wc hbc hp => by
          obtain ⟨g47, q47, h47⟩ := hp 9 (by decide)
          refine op_callNL rfl rfl rfl (enters_of Tryz.func7 (by kernel_rfl) rfl) (map3L ((eval_setAll (t := tbS [38, 39, 40, 41, 42, 43, 44, 45, 46, 47, 48] 11 σ) 40 (show ([38, 39, 40, 41, 42, 43, 44, 45, 46, 47, 48] : List Nat).Nodup by decide) (by kernel_rfl)).trans (hp 2 (by decide))) ((eval_setAll (t := tbS [38, 39, 40, 41, 42, 43, 44, 45, 46, 47, 48] 11 σ) 47 (show ([38, 39, 40, 41, 42, 43, 44, 45, 46, 47, 48] : List Nat).Nodup by decide) (by kernel_rfl)).trans q47) ((eval_setAll (t := tbS [38, 39, 40, 41, 42, 43, 44, 45, 46, 47, 48] 11 σ) 48 (show ([38, 39, 40, 41, 42, 43, 44, 45, 46, 47, 48] : List Nat).Nodup by decide) (by kernel_rfl)).trans (hp 10 (by decide)))) (had wc (hbh.trans (hbc.mono hbh.size)) _ h47) fun e w' hr' => ?_
          obtain ⟨F', rfl, hB', hF', hk'⟩ := hr'
          refine ⟨_, rfl, ?_⟩
          refine op_value rfl rfl (run_assignL w' rfl (v := .int .i64 (addErr sm T v)) (Act.eval_put_same _ _ _ (by simp [setAll_length]))) ?_
          refine ⟨rfl, σ, ?_, F', hB', fun x hx => ?_, ?_⟩
          · exact (congrArg (fun a => Act.put a (some 11) (.int .i64 (addErr sm T v))) (put_list _ 49 _)).trans (put_list _ 11 _)
          · rcases hF' x hx with h | h
            · exact .inl h
            · exact .inr (Nat.le_trans (Nat.le_trans hbh.size hbc.size) h)
          · exact (Kept.of_below (hbh.trans (hbc.mono hbh.size))).trans hk')) ?_
      rintro e a' w1 ⟨rfl, σ1, rfl, F', hB1, hF1, hk1⟩
      rw [show tbS [38, 39, 40, 41, 42, 43, 44, 45, 46, 47, 48] 11 σ1 = [(38, σ1 0), (39, σ1 1), (40, σ1 2), (41, σ1 3), (42, σ1 4), (43, σ1 5), (44, σ1 6), (45, σ1 7), (46, σ1 8), (47, σ1 9), (48, σ1 10)] from rfl]
      dsimp only [setAll, List.set, List.append_nil, List.cons_append, List.nil_append]
      rw [hae] at *
      rw [ham] at hB1
      go_wp2_with fail
      go_ret3
      exact ⟨rfl, F', hsum hB1, hF1, hk1⟩
    | true =>
      have hae : addErr sm T v = 0 := by unfold addErr; rw [htel, hq]; rfl
      have ham : addM sm T v = nextM sm T v := by unfold addM; rw [htel, hq]; rfl
      rw [hsay2, hnxt2, if_neg (by rw [hq]; simp), if_neg (by rw [hq]; simp)]
      have hnl : ((nextM sm T v).length : Int) = codedN S B := by rw [nextM_length]; exact hsl
      have hto : ∀ {w1 : World} {F' : List Nat}, EarP w1 ⟨b, 0, none⟩ F' S B (nextM sm T v) → ReadyL w1 → Calls Tryz.prog 37 #[.pointer (some ⟨b, 0, none⟩)] w1 fun e w' => e = .returned (.tuple #[.string (tookM S B (nextM sm T v)).data, .bool (tookM S B (nextM sm T v)).ok]) ∧ Below w1.heap.size w1 w' := fun h1 h2 => told_any h1 h2 hS hnl hq
      have hte : (tookM S B (nextM sm T v)).err = 0 := by unfold tookM; split <;> rfl
      obtain ⟨X, eX⟩ : ∃ X, X = nextM sm T v := ⟨_, rfl⟩
      rw [← eX] at hto hte ham ⊢
      obtain ⟨tt, ett⟩ : ∃ tt, tt = tookM S B X := ⟨_, rfl⟩
      rw [← ett] at hto hte ⊢
      clear ett
      obtain ⟨da, bo, er⟩ := tt
      obtain rfl : er = 0 := hte
      unfold Told.val
      dsimp only at hto ⊢
      clear hq htel hsay2 hnxt2 hnl eX
      go_enter Tryz.func15, Tryz.ntmps15
      go_wp2_with (first | (go_at_call 24; refine (hver _).mono ?_; rintro e w2 ⟨rfl, rfl⟩) | (go_at_call 35; refine hhe.mono ?_; rintro e wh ⟨gh, rfl, hah, hbh⟩; have hrh := ArrAt.rdL hah; obtain ⟨d1, d2, d3, d4, d5, d6⟩ := HCE.out wh hbh; rw [HC5.out] at d5) | fail)
      refine wp_mono (region_each (Q := fun e a' w' => e = .normal ∧ ∃ σ : Nat → Value, a' = ({ tmps := (((setAll _ (tbS [38, 39, 40, 41, 42, 43, 44, 45, 46, 47, 48] 11 σ)).set 49 (.int .i64 (addErr sm T v))).set 11 (.int .i64 (addErr sm T v))).toArray, defers := [] } : Act) ∧ ∃ F', BufR 72 (earTail S B) w' ⟨b, 0, none⟩ F' (addM sm T v) ∧ (∀ x ∈ F', x ∈ F ∨ w.heap.size ≤ x) ∧ Kept [b] w w') 13 11 [38, 39, 40, 41, 42, 43, 44, 45, 46, 47, 48]
        [[0], [38], [39], [10], [0], [42], [43], [44], [45], [41, 46], [2]] [1, 2, 11, 9, 5, 6, 7, 8, 9, 11, 11]
        [eqR (.pointer (some ⟨b, 0, none⟩)), eqR (.pointer (some ⟨b, 0, none⟩)), eqR (.pointer (some ⟨b, 0, none⟩)), eqR (.slice (some ⟨gh, 0, none⟩) N N), eqR (.pointer (some ⟨b, 0, none⟩)), eqR (.pointer (some ⟨b, 0, none⟩)), eqR (.pointer (some ⟨b, 0 + 1, none⟩)), eqR (.pointer (some ⟨b, 0 + 1 + 3, none⟩)), eqR (.int .i64 (U : Int)), sumR N T, eqR (.int .i64 v)] wh hmix rfl (by decide) rfl (by decide) (by kernel_rfl) (by kernel_rfl) (by kernel_rfl) (by kernel_rfl) (by kernel_rfl) (by kernel_rfl)
        (by intro R hR; simp only [List.mem_cons, List.not_mem_nil, or_false] at hR; rcases hR with rfl | rfl | rfl | rfl | rfl | rfl | rfl | rfl | rfl | rfl | rfl <;> (first | (exact eqR_mono _) | (exact sumR_mono _ _)))
        (fun i' hi' σ ac wc hbc hp hr Q K hK => by
          have hor : i' = 0 ∨ i' = 1 ∨ i' = 2 ∨ i' = 3 ∨ i' = 4 ∨ i' = 5 ∨ i' = 6 ∨ i' = 7 ∨ i' = 8 ∨ i' = 9 ∨ i' = 10 := by omega
          rcases hor with rfl | rfl | rfl | rfl | rfl | rfl | rfl | rfl | rfl | rfl | rfl
          · have e0 := hr 0 (by decide)
            exact op_value rfl rfl (run_moveQ wc rfl e0) (hK _ wc (grownL wc) rfl)
          · have e38 : ac.eval (.tmp 38) = (.pointer (some ⟨b, 0, none⟩)) := (hr 38 (by decide)).trans (hp 0 (by decide) (by kernel_rfl))
            exact op_value rfl rfl (run_nilL wc rfl e38) (hK _ wc (grownL wc) rfl)
          · have e39 : ac.eval (.tmp 39) = (.pointer (some ⟨b, 0, none⟩)) := (hr 39 (by decide)).trans (hp 1 (by decide) (by kernel_rfl))
            exact op_value rfl rfl (run_fldLink0 wc rfl e39) (hK _ wc (grownL wc) rfl)
          · have e10 := hr 10 (by decide)
            exact op_value rfl rfl (run_moveQ wc rfl e10) (hK _ wc (grownL wc) rfl)
          · have e0 := hr 0 (by decide)
            exact op_value rfl rfl (run_moveQ wc rfl e0) (hK _ wc (grownL wc) rfl)
          · have e42 : ac.eval (.tmp 42) = (.pointer (some ⟨b, 0, none⟩)) := (hr 42 (by decide)).trans (hp 4 (by decide) (by kernel_rfl))
            exact op_value rfl rfl (run_nilL wc rfl e42) (hK _ wc (grownL wc) rfl)
          · have e43 : ac.eval (.tmp 43) = (.pointer (some ⟨b, 0, none⟩)) := (hr 43 (by decide)).trans (hp 5 (by decide) (by kernel_rfl))
            exact op_value rfl rfl (run_fldLink1 wc rfl e43) (hK _ wc (grownL wc) rfl)
          · have e44 : ac.eval (.tmp 44) = (.pointer (some ⟨b, 0 + 1, none⟩)) := (hr 44 (by decide)).trans (hp 6 (by decide) (by kernel_rfl))
            exact op_value rfl rfl (run_fldSet3 wc rfl e44) (hK _ wc (grownL wc) rfl)
          · have e45 : ac.eval (.tmp 45) = (.pointer (some ⟨b, 0 + 1 + 3, none⟩)) := (hr 45 (by decide)).trans (hp 7 (by decide) (by kernel_rfl))
            obtain ⟨-, -, -, c4, -, -⟩ := HCE.out wc (hbh.trans (hbc.mono hbh.size))
            exact op_value rfl rfl (run_loadI wc rfl e45 (HU.out ▸ c4)) (hK _ wc (grownL wc) rfl)
          · have e41 : ac.eval (.tmp 41) = (.slice (some ⟨gh, 0, none⟩) N N) := (hr 41 (by decide)).trans (hp 3 (by decide) (by kernel_rfl))
            have e46 : ac.eval (.tmp 46) = (.int .i64 (U : Int)) := (hr 46 (by decide)).trans (hp 8 (by decide) (by kernel_rfl))
            refine op_callNL rfl rfl rfl (enters_of Tryz.func36 (by kernel_rfl) rfl) (map2L e41 e46) (hun wc _ (hrh.below hbc)) fun e w' hr' => ?_
            obtain ⟨g47, rfl, ho47, hb'⟩ := hr'
            exact ⟨_, rfl, hK _ w' (grown_of_below hb') (show sumR N T _ _ from ⟨g47, rfl, ho47.arr.1⟩)⟩
          · have e2 := hr 2 (by decide)
            exact op_value rfl rfl (run_moveQ wc rfl e2) (hK _ wc (grownL wc) rfl))
        (fun σ wc hbc hp => by
          obtain ⟨g47, q47, h47⟩ := hp 9 (by decide)
          refine op_callNL rfl rfl rfl (enters_of Tryz.func7 (by kernel_rfl) rfl) (map3L ((eval_setAll (t := tbS [38, 39, 40, 41, 42, 43, 44, 45, 46, 47, 48] 11 σ) 40 (show ([38, 39, 40, 41, 42, 43, 44, 45, 46, 47, 48] : List Nat).Nodup by decide) (by kernel_rfl)).trans (hp 2 (by decide))) ((eval_setAll (t := tbS [38, 39, 40, 41, 42, 43, 44, 45, 46, 47, 48] 11 σ) 47 (show ([38, 39, 40, 41, 42, 43, 44, 45, 46, 47, 48] : List Nat).Nodup by decide) (by kernel_rfl)).trans q47) ((eval_setAll (t := tbS [38, 39, 40, 41, 42, 43, 44, 45, 46, 47, 48] 11 σ) 48 (show ([38, 39, 40, 41, 42, 43, 44, 45, 46, 47, 48] : List Nat).Nodup by decide) (by kernel_rfl)).trans (hp 10 (by decide)))) (had wc (hbh.trans (hbc.mono hbh.size)) _ h47) fun e w' hr' => ?_
          obtain ⟨F', rfl, hB', hF', hk'⟩ := hr'
          refine ⟨_, rfl, ?_⟩
          refine op_value rfl rfl (run_assignL w' rfl (v := .int .i64 (addErr sm T v)) (Act.eval_put_same _ _ _ (by simp [setAll_length]))) ?_
          refine ⟨rfl, σ, ?_, F', hB', fun x hx => ?_, ?_⟩
          · exact (congrArg (fun a => Act.put a (some 11) (.int .i64 (addErr sm T v))) (put_list _ 49 _)).trans (put_list _ 11 _)
          · rcases hF' x hx with h | h
            · exact .inl h
            · exact .inr (Nat.le_trans (Nat.le_trans hbh.size hbc.size) h)
          · exact (Kept.of_below (hbh.trans (hbc.mono hbh.size))).trans hk')) ?_
      rintro e a' w1 ⟨rfl, σ1, rfl, F', hB1, hF1, hk1⟩
      rw [show tbS [38, 39, 40, 41, 42, 43, 44, 45, 46, 47, 48] 11 σ1 = [(38, σ1 0), (39, σ1 1), (40, σ1 2), (41, σ1 3), (42, σ1 4), (43, σ1 5), (44, σ1 6), (45, σ1 7), (46, σ1 8), (47, σ1 9), (48, σ1 10)] from rfl]
      dsimp only [setAll, List.set, List.append_nil, List.cons_append, List.nil_append]
      rw [hae] at *
      rw [ham] at hB1
      have hRw : ReadyL w1 := HRK.out w1 hk1
      go_wp2_with (first | (go_at_call 37; refine (hto (hsum hB1) hRw).mono ?_; rintro e w4 ⟨rfl, hb4⟩) | fail)
      go_ret3
      exact ⟨rfl, F', (hsum hB1).old hb4, hF1, hk1.trans (Kept.of_below hb4)⟩
  · have qN : ((N : Int) != (C : Int)) = true := by simpa using fun h => hNC (by exact_mod_cast h)
    have hne : (N : Int) ≠ (C : Int) := fun h => hNC (by exact_mod_cast h)
    rw [hSay, hNxt, if_pos hne, if_pos (Or.inl hne)]
    unfold Told.val
    have HC5 := hid eC
    clear hSay hNxt hne hgood hh hv eO eC eU hod hsd eN
    go_enter Tryz.func15, Tryz.ntmps15
    go_wp2_with (first | (go_at_call 24; refine (hver _).mono ?_; rintro e w2 ⟨rfl, rfl⟩) | (go_at_call 35; refine hhe.mono ?_; rintro e wh ⟨gh, rfl, hah, hbh⟩; have hrh := ArrAt.rdL hah; obtain ⟨d1, d2, d3, d4, d5, d6⟩ := HCE.out wh hbh; rw [HC5.out] at d5) | fail)
    go_ret3
    exact ⟨rfl, F, hE.old hbh, fun x hx => .inl hx, Kept.of_below hbh⟩
theorem ltake_any {w : World} {p : Addr} {F : List Nat} {S : Setg} {B : Nat} {sm : List Int} (ps : List (Int × Int)) (a : Option Addr) (n c : Nat) (v : Int) (hR : ReadyL w) (hE : EarP w p F S B sm) (hS : SetOk S B) (hsl : (sm.length : Int) = codedN S B) (hsm : softOk sm = true) (hP : Pts w a ps) (hn : ps.length = n) (hz : n ≤ 8796093022208) :
    Calls Tryz.prog 15 #[.pointer (some p), .slice a n c, .int .i64 v] w fun e w' => e = .returned (earSays S B sm ps v).val ∧ ∃ F', EarP w' p F' S B (earNext S sm ps v) ∧ (∀ x ∈ F', x ∈ F ∨ w.heap.size ≤ x) ∧ Kept [p.block] w w' := by
  obtain ⟨b, g, rfl, -, -, -, -⟩ := hE.block
  cases hh : earHears S ps v with
  | true => exact ltake_good ps a n c v hR hE hS hsl hsm hP hn hz hh
  | false =>
    refine (ltake_bad ps a n c v hE hP hn hz hh).mono fun e w' h => ?_
    obtain ⟨rfl, hb⟩ := h
    refine ⟨?_, F, ?_, fun x hx => .inl hx, Kept.of_below hb⟩
    · unfold earSays; rw [if_pos hh]
    · unfold earNext; rw [if_pos (Or.inl hh)]; exact hE.old hb
end Go.Proofs.YtplkmkbambbemaeGreatDoor
namespace Go.Proofs.YtplkmkbambbemaeGreatDoor
open Go.ChangeShapes Go.WideShapes Go.ChangeAt Go.RowKit
theorem rd_cells {k : IntKind} {w : World} {a : Option Addr} {zs : List Int} (h : Rd k w a zs) : ∀ ad, a = some ad → ∀ j u, (zs.map (Value.int k))[j]? = some u → w.cell? (ad.add j) = some u := by
  intro ad had j u hu
  have hj : j < zs.length := by
    have := (List.getElem?_eq_some_iff.1 hu).1
    simpa using this
  obtain ⟨b, off, e, hc⟩ := h.at hj
  rw [e] at had
  obtain rfl := Option.some.inj had
  rw [Addr.add_lit, hc j hj]
  have e : (zs.map (Value.int k))[j]? = some (.int k (zs.getD j 0)) := by simp [List.getD, hj]
  rw [e] at hu
  exact hu
theorem own_of_block {w : World} {B : Nat} {e : TypeId} {g n cap : Nat} {cur : Array Value} (hB : B ≤ g) (h : w.heap[g]? = some (.cells cur e (0, 0))) (hn : n ≤ cap) (hm : cap ≤ maxLen) (hs : cur.size = cap) : w.ownsRow B e 1 (.slice (some ⟨g, 0, none⟩) n cap) n (cur.toList.take n) :=
  ⟨by simp; omega, .inr ⟨g, cap, cur, rfl, hB, h, hn, hm, by omega, by rw [Nat.mul_one]⟩⟩
theorem three_new (k : IntKind) (m : Int) (T : TypeId) (w : World) : ∀ j u, ([.int k m, .int k m, .int k m] : List Value)[j]? = some u → (w.alloc (.cells #[.int k m, .int k m, .int k m] T)).cell? ((⟨w.heap.size, 0, none⟩ : Addr).add j) = some u := fun j u hu => by
  rw [Addr.add_lit, cell_of_row _ _ _ _ _ _ (heap_alloc_new w _), Nat.zero_add]
  simpa using hu
end Go.Proofs.YtplkmkbambbemaeGreatDoor
namespace Go.Proofs.YtplkmkbambbemaeGreatDoor
open Go.ChangeShapes Go.WideShapes Go.ChangeAt Go.RowKit
set_option maxHeartbeats 1000000 in
theorem roomyI (zs : List Int) (m : Int) (a : Option Addr) (c n : Nat) (w : World) (ha : Rd .i64 w a zs) (hn : a = none → n = 0 ∧ c = 0) (hl : zs.length = n) (hz : n ≤ 17592186044416) :
    Calls Tryz.prog 6 #[.slice a n c, .int .i64 m] w fun e w' => ∃ g, e = .returned (.slice (some ⟨g, 0, none⟩) n (n + 3)) ∧ ArrAt .i64 3 w' g (zs ++ [m, m, m]) ∧ w.heap.size ≤ g ∧ Below w.heap.size w w' := by
  obtain ⟨i0, hi, hz0, hz1, hz2⟩ := info_parts Tryz.info3
  obtain ⟨N, eN⟩ : ∃ N, N = n + 3 := ⟨_, rfl⟩
  have HN := hid eN
  have HL := hid hl
  have hN1 : n + 3 ≤ N := by omega
  have hN2 : N ≤ 17592186044419 := by omega
  rw [← eN]
  have hNI : (n : Int) + 3 = (N : Int) := by rw [eN]; rfl
  clear eN hl
  go_enter Tryz.func6, Tryz.ntmps6
  go_wp2_with (first
    | (at_make; refine wpList_make_own _ rfl _ _ 22 rfl w.heap.size 3 i0 (.int .i64 0) 1 Tryz.underlying22 hi hz0 hz1 _ _ _ N rfl rfl (by first | rfl | exact hNI) (by rw [hz2]; omega) (by unfold maxLen; omega) (Nat.le_refl _) ?_))
  intro w1 hown1 hg1
  have hb1 := (Below.refl w.heap.size w).grown hg1 (Nat.le_refl _) (fun g e => by cases e)
  have ha1 := ha.below hb1
  obtain ⟨G, eG⟩ : ∃ G, G = w.heap.size := ⟨_, rfl⟩
  rw [← eG] at hown1
  rw [← eG]
  have HG := hid eG
  have hGw : w.heap.size ≤ G := by omega
  clear eG
  go_wp2_with (first
    | (at_builtin; refine wpList_append_fits_any _ rfl _ _ 22 rfl G 3 i0 1 Tryz.underlying22 hi hz1 G 0 N [] rfl hown1 a n c (zs.map (Value.int .i64)) rfl (by rw [List.length_map, HL.out, Nat.mul_one]) hn (rd_cells ha1) (ints_oneCell .i64 zs) (by omega) ?_))
  intro w2 hown2 hg2
  have hb2 := hb1.grown hg2 (by have := hb1.size; omega) (fun g e => by simp only [Option.some.injEq] at e; omega)
  have hGs : G < w2.heap.size := (hown2.lt G rfl).2
  have hown2' := World.ownsRow.alloc hown2 (.cells #[.int .i64 m, .int .i64 m, .int .i64 m] 3)
  have hb2' := hb2.alloc hb2.size (.cells #[.int .i64 m, .int .i64 m, .int .i64 m] 3)
  have hc3 : ∀ j u, ([.int .i64 m, .int .i64 m, .int .i64 m] : List Value)[j]? = some u → (w2.alloc (.cells #[.int .i64 m, .int .i64 m, .int .i64 m] 3)).cell? ((⟨w2.heap.size, 0, none⟩ : Addr).add j) = some u := fun j u hu => by
    rw [Addr.add_lit, cell_of_row _ _ _ _ _ _ (heap_alloc_new w2 _), Nat.zero_add]
    simpa using hu
  have HC3 := hid hc3
  clear hc3
  go_wp2_with (first
    | (at_builtin; refine wpList_append_fits _ rfl _ _ 22 rfl G 3 i0 1 Tryz.underlying22 hi hz1 G n N (zs.map (Value.int .i64)) rfl hown2' ⟨w2.heap.size, 0, none⟩ 3 3 [.int .i64 m, .int .i64 m, .int .i64 m] rfl rfl HC3.out (fun u hu => by simp at hu; subst hu; rfl) (by omega) ?_))
  intro w3 hown3 hg3
  have hb3 := hb2'.grown hg3 (by have := hb2'.size; omega) (fun g e => by simp only [Option.some.injEq] at e; omega)
  have harr : ArrAt .i64 3 w3 G (zs ++ [m, m, m]) := by
    have hO : OwnI w3 G (.slice (some ⟨G, 0, none⟩) N N) (zs ++ [m, m, m]) := by
      unfold OwnI
      rw [List.length_append, List.map_append, HL.out]
      rw [← HN.out] at hown3
      show w3.ownsRow G 3 1 (.slice (some ⟨G, 0, none⟩) N N) (n + 3) _
      rw [← HN.out]
      exact hown3
    exact hO.arr.1
  clear hown1 hown2 hown2' hown3 HC3 hg3
  go_wp2
  go_ret
  exact ⟨G, rfl, harr, hGw, hb3⟩
set_option maxHeartbeats 1000000 in
theorem keptI (zs : List Int) (m : Int) (g n : Nat) (a : Option Addr) (c : Nat) (w : World) (hl : zs.length = n) (hz : n ≤ 17592186044416) (har : ArrAt .i64 3 w g (zs ++ [m, m, m])) (ha : Rd .i64 w a zs) :
    Calls Tryz.prog 8 #[.slice (some ⟨g, 0, none⟩) n (n + 3), .slice a n c, .int .i64 m] w fun e w' => e = .returned (.bool true) ∧ Below w.heap.size w w' := by
  have HL := hid hl
  obtain ⟨N, eN⟩ : ∃ N, N = n + 3 := ⟨_, rfl⟩
  have hNI : (n : Int) + 3 = (N : Int) := by rw [eN]; rfl
  have hN1 : n + 3 = N := eN.symm
  have hN2 : N ≤ 17592186044419 := by omega
  have hlt3 : ∀ i, i < 3 → (zs ++ [m, m, m]).getD (n + i) 0 = m := fun i hi => by
    have h3 : i = 0 ∨ i = 1 ∨ i = 2 := by omega
    rcases h3 with rfl | rfl | rfl <;> simp [List.getD, ← hl]
  have HM := hid hlt3
  rw [← eN]
  clear eN hl hlt3
  go_enter Tryz.func8, Tryz.ntmps8
  go_wp2
  go_loopw [16] (fun i wr => ∃ k : Nat, k ≤ n ∧ i = .int .i64 k ∧ Below w.heap.size w wr) (fun i _ => n - (intOf i).toNat)
  case atStart => exact ⟨0, Nat.zero_le _, rfl, Below.refl _ _⟩
  case round =>
    obtain ⟨k, hk, rfl, hbel⟩ := hrel
    have har' := har.below hbel har.lt
    by_cases hlt : k < n
    · obtain ⟨b2, o2, rfl, hc2⟩ := (ha.below hbel).at (i := k) (by rw [HL.out]; exact hlt)
      have g2 := hc2 k (by rw [HL.out]; exact hlt)
      have g1 := har'.cell (j := k) (by simp [HL.out]; omega)
      rw [show (zs ++ [m, m, m]).getD k 0 = zs.getD k 0 by simp only [List.getD, List.getElem?_append_left (show k < zs.length by rw [HL.out]; exact hlt)]] at g1
      generalize zs.getD k 0 = x at *
      clear hc2 har'
      go_wp2_with fail
      go_quiet (fail)
      go_wp2
      go_roundw
      case rel => exact ⟨k + 1, by omega, by go_num, below_drewN hbel _⟩
      case measure => simp [intOf]; omega
    · have d0 := har'.cell (j := n + 0) (by simp [HL.out])
      have d1 := har'.cell (j := n + 1) (by simp [HL.out])
      have d2 := har'.cell (j := n + 2) (by simp [HL.out])
      rw [HM.out 0 (by omega)] at d0
      rw [HM.out 1 (by omega)] at d1
      rw [HM.out 2 (by omega)] at d2
      rw [Nat.add_zero] at d0
      clear har'
      go_wp2
      go_ret
      exact ⟨rfl, hbel⟩
end Go.Proofs.YtplkmkbambbemaeGreatDoor
namespace Go.Proofs.YtplkmkbambbemaeGreatDoor
open Go.ChangeShapes Go.WideShapes Go.ChangeAt Go.RowKit
theorem pts_cells {w : World} {a : Option Addr} {ps : List (Int × Int)} (h : Pts w a ps) : ∀ ad, a = some ad → ∀ j u, (cellsQ ps)[j]? = some u → w.cell? (ad.add j) = some u := by
  intro ad had j u hu
  have hj : j < 2 * ps.length := by
    have := (List.getElem?_eq_some_iff.1 hu).1
    rwa [cellsQ_length] at this
  obtain ⟨b, off, e, hc⟩ := h.at (i := j / 2) (by omega)
  rw [e] at had
  obtain rfl := Option.some.inj had
  have h1 := hc (j / 2) (by omega)
  have h2 := cellsQ_at ps (j / 2) (by omega)
  rw [Addr.add_lit]
  have h3 : j = j / 2 * 2 ∨ j = j / 2 * 2 + 1 := by omega
  rcases h3 with h3 | h3
  · rw [h3] at hu ⊢
    rw [h2.1] at hu
    rw [h1.1]
    exact hu
  · rw [h3] at hu ⊢
    rw [h2.2] at hu
    rw [← Nat.add_assoc, h1.2]
    exact hu
theorem six_new (x y : Int) (T : TypeId) (w : World) : ∀ j u, ([.int .i64 x, .int .i64 y, .int .i64 x, .int .i64 y, .int .i64 x, .int .i64 y] : List Value)[j]? = some u → (w.alloc (.cells #[.int .i64 x, .int .i64 y, .int .i64 x, .int .i64 y, .int .i64 x, .int .i64 y] T)).cell? ((⟨w.heap.size, 0, none⟩ : Addr).add j) = some u := fun j u hu => by
  rw [Addr.add_lit, cell_of_row _ _ _ _ _ _ (heap_alloc_new w _), Nat.zero_add]
  simpa using hu
theorem cell_grownM {w w' : World} {row : Option Nat} {p : Addr} {v : Value} (h : w.cell? p = some v) (hg : w.grownBy w' row) (hr : ∀ g, row = some g → p.block ≠ g) : w'.cell? p = some v := by
  have hb := hg.block p.block (World.block_lt_of_cell? w _ h) (fun e => hr _ e.symm rfl)
  rw [← h]
  exact World.cell?_of_block (w := w) hb
set_option maxRecDepth 100000 in
set_option maxHeartbeats 1000000 in
theorem roomyP (ps : List (Int × Int)) (x y : Int) (a : Option Addr) (c n : Nat) (w : World) (ha : Pts w a ps) (hn : a = none → n = 0 ∧ c = 0) (hl : ps.length = n) (hz : n ≤ 8796093022208) :
    Calls Tryz.prog 14 #[.slice a n c, .agg #[.int .i64 x, .int .i64 y]] w fun e w' => ∃ g, e = .returned (.slice (some ⟨g, 0, none⟩) n (n + 3)) ∧ PArr w' g (ps ++ [(x, y), (x, y), (x, y)]) ∧ w.heap.size ≤ g ∧ Below w.heap.size w w' := by
  obtain ⟨i0, hi, hz0, hz1, hz2⟩ := info_parts Tryz.infoQ
  obtain ⟨N, eN⟩ : ∃ N, N = n + 3 := ⟨_, rfl⟩
  have HN := hid eN
  have HL := hid hl
  have hN1 : n + 3 ≤ N := by omega
  have hN2 : N ≤ 8796093022211 := by omega
  rw [← eN]
  have hNI : (n : Int) + 3 = (N : Int) := by rw [eN]; rfl
  have hb0 : Below w.heap.size w (w.alloc (.cells #[.int .i64 x, .int .i64 y] 44)) := (Below.refl _ w).alloc (Nat.le_refl _) _
  have q0 : (w.alloc (.cells #[.int .i64 x, .int .i64 y] 44)).cell? ⟨w.heap.size, 0, none⟩ = some (.int .i64 x) := by rw [cell_of_row _ _ _ _ _ _ (heap_alloc_new w _)]; rfl
  have q1 : (w.alloc (.cells #[.int .i64 x, .int .i64 y] 44)).cell? ⟨w.heap.size, 1, none⟩ = some (.int .i64 y) := by rw [cell_of_row _ _ _ _ _ _ (heap_alloc_new w _)]; rfl
  have hsb : w.heap.size < (w.alloc (.cells #[.int .i64 x, .int .i64 y] 44)).heap.size := by simp
  clear eN hl
  go_enter Tryz.func14, Tryz.ntmps14
  go_wp2_with (first
    | (at_make; refine wpList_make_own _ rfl _ _ 36 rfl w.heap.size 44 i0 (.agg #[.int .i64 0, .int .i64 0]) 2 Tryz.underlying36 hi hz0 hz1 _ _ _ N rfl rfl (by first | rfl | exact hNI) (by rw [hz2]; omega) (by unfold maxLen; omega) (by simp) ?_))
  generalize w.alloc (.cells #[.int .i64 x, .int .i64 y] 44) = wb at *
  intro w1 hown1 hg1
  have hb1 := hb0.grown hg1 hb0.size (fun g e => by cases e)
  have ha1 := ha.below hb1
  have p0 := ((Below.refl wb.heap.size wb).grown hg1 (Nat.le_refl _) (fun g e => by cases e)).cell (p := ⟨w.heap.size, 0, none⟩) hsb |>.trans q0
  have p1 := ((Below.refl wb.heap.size wb).grown hg1 (Nat.le_refl _) (fun g e => by cases e)).cell (p := ⟨w.heap.size, 1, none⟩) hsb |>.trans q1
  obtain ⟨G, eG⟩ : ∃ G, G = w.heap.size + 1 := ⟨_, rfl⟩
  rw [← eG] at hown1
  rw [← eG]
  have hsG : w.heap.size < G := by omega
  clear eG q0 q1 hsb
  go_wp2_with (first
    | (at_builtin; refine wpList_append_fits_any _ rfl _ _ 36 rfl w.heap.size 44 i0 2 Tryz.underlying36 hi hz1 G 0 N [] rfl hown1 a n c (cellsQ ps) rfl (by rw [cellsQ_length, HL.out, Nat.mul_comm]) hn (pts_cells ha1) (cellsQ_one ps) (by omega) ?_))
  intro w2 hown2 hg2
  have hb2 := hb1.grown hg2 hb1.size (fun g e => by simp only [Option.some.injEq] at e; omega)
  have hGs : G < w2.heap.size := (hown2.lt G rfl).2
  have r0 := cell_grownM p0 hg2 (fun g e => by simp only [Option.some.injEq] at e; show w.heap.size ≠ g; omega)
  have r1 := cell_grownM p1 hg2 (fun g e => by simp only [Option.some.injEq] at e; show w.heap.size ≠ g; omega)
  have hown2' := World.ownsRow.alloc hown2 (.cells #[.int .i64 x, .int .i64 y, .int .i64 x, .int .i64 y, .int .i64 x, .int .i64 y] 44)
  have hb2' := hb2.alloc hb2.size (.cells #[.int .i64 x, .int .i64 y, .int .i64 x, .int .i64 y, .int .i64 x, .int .i64 y] 44)
  have HC3 := hid (six_new x y 44 w2)
  clear p0 p1 hown1 hg2
  go_wp2_with (first
    | (at_builtin; refine wpList_append_fits _ rfl _ _ 36 rfl w.heap.size 44 i0 2 Tryz.underlying36 hi hz1 G n N (cellsQ ps) rfl hown2' ⟨w2.heap.size, 0, none⟩ 3 3 [.int .i64 x, .int .i64 y, .int .i64 x, .int .i64 y, .int .i64 x, .int .i64 y] rfl rfl HC3.out (cellsQ_one [(x, y), (x, y), (x, y)]) (by omega) ?_))
  intro w3 hown3 hg3
  have hb3 := hb2'.grown hg3 (by have := hb2'.size; omega) (fun g e => by simp only [Option.some.injEq] at e; omega)
  have harr : PArr w3 G (ps ++ [(x, y), (x, y), (x, y)]) := by
    rcases hown3.2 with ⟨h', _⟩ | ⟨g', cap, cur, h', hB, hg, _, hm, hcs, ht⟩
    · simp at h'
    · simp only [Value.slice.injEq, Option.some.injEq, Addr.mk.injEq, and_true] at h'
      obtain ⟨rfl, -, rfl⟩ := h'
      unfold PArr
      rw [hg, cellsQ_append]
      have e2 : cellsQ [(x, y), (x, y), (x, y)] = [.int .i64 x, .int .i64 y, .int .i64 x, .int .i64 y, .int .i64 x, .int .i64 y] := rfl
      rw [e2, ← ht, List.take_of_length_le (by have := HN.out; simp; omega)]
  clear hown2 hown2' hown3 HC3 hg3 r0 r1
  go_wp2
  go_ret
  exact ⟨G, rfl, harr, by omega, hb3⟩
theorem own_block2 {w : World} {B : Nat} {e : TypeId} {v : Value} {n : Nat} {xs : List Value} (h : w.ownsRow B e 2 v n xs) : v = .slice none 0 0 ∨ ∃ g cap cur, v = .slice (some ⟨g, 0, none⟩) n cap ∧ B ≤ g ∧ w.heap[g]? = some (.cells cur e (0, 0)) ∧ n ≤ cap ∧ cap ≤ maxLen ∧ cur.size = cap * 2 := by
  rcases h.2 with ⟨e1, _⟩ | ⟨g, cap, cur, h1, h2, h3, h4, h5, h6, _⟩
  · exact .inl e1
  · exact .inr ⟨g, cap, cur, h1, h2, h3, h4, h5, h6⟩
theorem own_of_block2 {w : World} {B : Nat} {e : TypeId} {g n cap : Nat} {cur : Array Value} (hB : B ≤ g) (h : w.heap[g]? = some (.cells cur e (0, 0))) (hn : n ≤ cap) (hm : cap ≤ maxLen) (hs : cur.size = cap * 2) : w.ownsRow B e 2 (.slice (some ⟨g, 0, none⟩) n cap) n (cur.toList.take (n * 2)) :=
  ⟨by simp; omega, .inr ⟨g, cap, cur, rfl, hB, h, hn, hm, hs, rfl⟩⟩
theorem there_block2 {w : World} {e : TypeId} {g i cap : Nat} {cur : Array Value} (h : w.heap[g]? = some (.cells cur e (0, 0))) (hs : cur.size = cap * 2) (hi : i < cap) : w.there g (i * 2) 2 := fun j hj => by
  refine ⟨?_, frozen_of_row w g _ _ _ h⟩
  rw [cell_of_row _ _ _ _ _ _ h]
  simp
  omega
theorem set_block2 {w : World} {e : TypeId} {g i cap : Nat} {cur : Array Value} (u v : Value) (h : w.heap[g]? = some (.cells cur e (0, 0))) (hs : cur.size = cap * 2) : ∃ cur', (w.setCells g (i * 2) [u, v]).heap[g]? = some (.cells cur' e (0, 0)) ∧ cur'.size = cap * 2 := by
  have h1 := heap_setCell_same w g (i * 2) _ _ u h
  have h2 := heap_setCell_same _ g (i * 2 + 1) _ _ v h1
  exact ⟨_, h2, by simp [hs]⟩
theorem run_idxM {ρ : Operand → Value} (w : World) {o : Oper} {x y : Operand} {g s j n c : Nat} (ho : o.op = .indexAddr 36 x y) (h : ρ x = .slice (some ⟨g, s, none⟩) n c) (h' : ρ y = .int .i64 j) (hj : j < n) : (execOp ρ o).run Tryz.prog w = .ok (.value (.pointer (some ⟨g, s + j * 2, none⟩))) w := by
  unfold execOp
  simp only [ho, h, h']
  simp [go_sem, Tryz.underlying36, hj]
theorem run_loadM {ρ : Operand → Value} (w : World) {o : Oper} {x : Operand} {g s : Nat} {p : Int × Int} (ho : o.op = .load 44 x) (h : ρ x = .pointer (some ⟨g, s, none⟩)) (hc : w.cell? ⟨g, s, none⟩ = some (.int .i64 p.1) ∧ w.cell? ⟨g, s + 1, none⟩ = some (.int .i64 p.2)) : (execOp ρ o).run Tryz.prog w = .ok (.value (.agg #[.int .i64 p.1, .int .i64 p.2])) w := by
  unfold execOp
  have hr := run_loadVar_mid w g s 44 [.int .i64 p.1, .int .i64 p.2] _ (pts_range hc) Tryz.underlying44 rfl (by kernel_rfl)
  simp only [ho, h, Instr.loadAt, Instr.sureAddr, Sem.run_bind, Sem.run_pure, Result.andThen_ok, hr]
theorem run_neqP {ρ : Operand → Value} (w : World) {o : Oper} {x y : Operand} {p q : Int × Int} (ho : o.op = .binOp .neq 44 x y 44) (h : ρ x = .agg #[.int .i64 p.1, .int .i64 p.2]) (h' : ρ y = .agg #[.int .i64 q.1, .int .i64 q.2]) : (execOp ρ o).run Tryz.prog w = .ok (.value (.bool (!(p.1 == q.1 && p.2 == q.2)))) w := by
  have hm : Tryz.prog.eqGuardType Tryz.prog.depth 44 = false := by kernel_rfl
  unfold execOp
  simp only [ho, h, h']
  simp [go_sem, hm, run_eqP]
theorem run_eqlP {ρ : Operand → Value} (w : World) {o : Oper} {x y : Operand} {p q : Int × Int} (ho : o.op = .binOp .eql 44 x y 44) (h : ρ x = .agg #[.int .i64 p.1, .int .i64 p.2]) (h' : ρ y = .agg #[.int .i64 q.1, .int .i64 q.2]) : (execOp ρ o).run Tryz.prog w = .ok (.value (.bool (p.1 == q.1 && p.2 == q.2))) w := by
  have hm : Tryz.prog.eqGuardType Tryz.prog.depth 44 = false := by kernel_rfl
  unfold execOp
  simp only [ho, h, h']
  simp [go_sem, hm, run_eqP]
end Go.Proofs.YtplkmkbambbemaeGreatDoor
