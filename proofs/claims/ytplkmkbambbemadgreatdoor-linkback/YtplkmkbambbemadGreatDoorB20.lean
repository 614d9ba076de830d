import Derived.Test.YtplkmkbambbemadGreatDoorB19
import Derived.Test.YtplkmkbambbemadGreatDoorB16
import Derived.Test.YtplkmkbambbemadGreatDoorB17
import Derived.Test.YtplkmkbambbemadGreatDoorB06
namespace Go.Proofs.YtplkmkbambbemadGreatDoor
open Go.ChangeShapes Go.WideShapes Go.ChangeAt Go.RowKit
set_option maxRecDepth 100000 in
set_option maxHeartbeats 4000000 in
/-- Points that may not be heard. -/
theorem ltake_bad {w : World} {b B : Nat} {F : List Nat} {S : Setg} {sm : List Int} (ps : List (Int × Int)) (a : Option Addr) (n c : Nat) (v : Int) (hE : EarP w ⟨b, 0, none⟩ F S B sm) (hP : Pts w a ps) (hn : ps.length = n) (hz : n ≤ 8796093022208) (hbad : earHears S ps v = false) :
    Calls Tryz.prog 37 #[.pointer (some ⟨b, 0, none⟩), .slice a n c, .int .i64 v] w fun e w' => e = .returned (Told.val ⟨ByteArray.empty, false, 1⟩) ∧ Below w.heap.size w w' := by
  have HCE : Hid (∀ wz, Below w.heap.size w wz → wz.cell? ⟨b, 1, none⟩ = some (.int .i64 S.code) ∧ wz.cell? ⟨b, 2, none⟩ = some (.int .i64 S.size) ∧ wz.cell? ⟨b, 3, none⟩ = some (.int .i64 S.order) ∧ wz.cell? ⟨b, 4, none⟩ = some (.int .i64 S.seed) ∧ wz.cell? ⟨b, 5, none⟩ = some (.int .i64 S.count) ∧ wz.cell? ⟨b, 6, none⟩ = some (.int .i64 (B : Int))) := fun wz hz => by
    obtain ⟨b', g, e, -, -, hbx, -⟩ := (hE.old hz).block
    cases e
    exact ear_cells hbx
  obtain ⟨c1, c2, c3, c4, c5, c6⟩ := HCE.out w (Below.refl _ _)
  have hver := fun wz => lversion_any v wz
  unfold verErr at hver
  unfold Told.val
  cases hv : verOk v with
  | false =>
    rw [hv] at hver
    clear hbad hE hP hv HCE
    go_enter Tryz.func37, Tryz.ntmps37
    go_wp2_with (first | (go_at_call 70; refine (hver _).mono ?_; rintro e w2 ⟨rfl, rfl⟩) | fail)
    go_ret3
    exact ⟨rfl, Below.refl _ _⟩
  | true =>
    rw [hv] at hver
    have hh : hearsOk ps S.order = false := by unfold earHears at hbad; rw [hv, Bool.true_and] at hbad; exact hbad
    have hhe := hear_bad ps S.order a c w hP (by omega) hh
    rw [hn] at hhe
    clear hbad hE hP hv HCE hh
    go_enter Tryz.func37, Tryz.ntmps37
    go_wp2_with (first | (go_at_call 70; refine (hver _).mono ?_; rintro e w2 ⟨rfl, rfl⟩) | (go_at_call 20; refine hhe.mono ?_; rintro e w3 ⟨rfl, hb3⟩) | fail)
    go_ret3
    exact ⟨rfl, hb3⟩
theorem heapLt {w : World} {g : Nat} {o : Obj} (h : w.heap[g]? = some o) : g < w.heap.size := (Array.getElem?_eq_some_iff.1 h).1
theorem ReadyL.kept {w w' : World} {L : List Nat} (h : ReadyL w) (hk : Kept L w w') (h1 : 0 ∉ L) (h2 : 1 ∉ L) (h3 : 2 ∉ L) : ReadyL w' := by
  obtain ⟨⟨T1, f1, e1⟩, ⟨T2, f2, e2⟩, ⟨T3, f3, e3⟩⟩ := h
  exact ⟨⟨T1, f1, (hk.block _ (heapLt e1) h1).trans e1⟩, ⟨T2, f2, (hk.block _ (heapLt e2) h2).trans e2⟩, ⟨T3, f3, (hk.block _ (heapLt e3) h3).trans e3⟩⟩
theorem no_table {w : World} {b g : Nat} {T T' : TypeId} {fr : Nat × Nat} {r : List Value} {k : IntKind} {x : Int} {l : List Value} {a : Option Addr} {n c : Nat} (h : w.heap[g]? = some (.cells (Value.int k x :: l).toArray T fr)) (hb : BoxR w b T' r (.slice a n c)) : g ∉ [b] := by
  intro hm
  obtain rfl : g = b := by simpa using hm
  have h2 : w.heap[g]? = some (.cells (Value.slice a n c :: r).toArray T' (0, 0)) := hb
  rw [h] at h2
  simp at h2
theorem softBd {l : List Int} (h : ∀ k, -1000 ≤ l.getD k 0 ∧ l.getD k 0 ≤ 1000) : softOk l = true := by
  unfold softOk
  refine List.all_eq_true.2 fun x hx => ?_
  obtain ⟨i, hi, rfl⟩ := List.getElem_of_mem hx
  have e : l.getD i 0 = l[i] := by simp [List.getD, hi]
  have := h i
  rw [e] at this
  exact decide_eq_true (by omega)
/-- What is heard of points, in the document's words. -/
theorem hear_law (ps : List (Int × Int)) (O n N : Nat) (a : Option Addr) (c : Nat) (w : World) (hP : Pts w a ps) (hn : ps.length = n) (hO : O = 2 ∨ O = 4 ∨ O = 6) (hN : N = n * O) (hok : hearsOk ps (O : Int) = true) :
    Calls Tryz.prog 20 #[.slice a n c, .int .i64 O] w fun e w' => ∃ g, e = .returned (.tuple #[.slice (some ⟨g, 0, none⟩) N N, .int .i64 0]) ∧ ArrAt .i64 3 w' g (heardM (O / 2) O ps ps.length) ∧ Below w.heap.size w w' := by
  have hok' := hok
  unfold hearsOk at hok'
  rw [Bool.and_eq_true, Bool.and_eq_true, decide_eq_true_eq] at hok'
  obtain ⟨⟨-, h4⟩, hsq⟩ := hok'
  have hN4 : N ≤ 4096 := by
    have h5 : ((ps.length * O : Nat) : Int) ≤ 4096 := by rw [Int.natCast_mul]; exact h4
    rw [hN, ← hn]; omega
  refine (hear_good ps (O / 2) O n N a c w hP (by omega) (by omega) (by omega) hn hN hN4 hok).mono fun e w' h => ?_
  obtain ⟨g, rfl, ho, hb⟩ := h
  refine ⟨g, rfl, ?_, hb⟩
  have e1 : pairsAll (hearM (O / 2)) (O / 2) ps n = heardM (O / 2) O ps ps.length := by
    subst hn
    have := pairs_heard (h := O / 2) (by omega) (by omega) (ps := ps) (fun k hk => by
      have e : ps.getD k (0, 0) = ps[k] := by simp [List.getD, hk]
      rw [e]
      exact List.all_eq_true.1 hsq _ (List.getElem_mem hk))
    rw [show 2 * (O / 2) = O by omega] at this
    exact this
  rw [← e1]
  exact ho.arr.1
set_option maxRecDepth 100000 in
set_option maxHeartbeats 4000000 in
theorem ltake_good {w : World} {b B : Nat} {F : List Nat} {S : Setg} {sm : List Int} (ps : List (Int × Int)) (a : Option Addr) (n c : Nat) (v : Int) (hR : ReadyL w) (hE : EarP w ⟨b, 0, none⟩ F S B sm) (hS : SetOk S B) (hsl : (sm.length : Int) = codedN S B) (hsm : softOk sm = true) (hP : Pts w a ps) (hn : ps.length = n) (_hz : n ≤ 8796093022208) (hgood : earHears S ps v = true) :
    Calls Tryz.prog 37 #[.pointer (some ⟨b, 0, none⟩), .slice a n c, .int .i64 v] w fun e w' => e = .returned (earSays S B sm ps v).val ∧ ∃ F', EarP w' ⟨b, 0, none⟩ F' S B (earNext S sm ps v) ∧ (∀ x ∈ F', x ∈ F ∨ w.heap.size ≤ x) ∧ Kept [b] w w' := by
  have hmix : Tryz.prog.follows .mixedOrders = true := by kernel_rfl
  have HCE : Hid (∀ wz, Below w.heap.size w wz → wz.cell? ⟨b, 1, none⟩ = some (.int .i64 S.code) ∧ wz.cell? ⟨b, 2, none⟩ = some (.int .i64 S.size) ∧ wz.cell? ⟨b, 3, none⟩ = some (.int .i64 S.order) ∧ wz.cell? ⟨b, 4, none⟩ = some (.int .i64 S.seed) ∧ wz.cell? ⟨b, 5, none⟩ = some (.int .i64 S.count) ∧ wz.cell? ⟨b, 6, none⟩ = some (.int .i64 (B : Int))) := fun wz hz => by
    obtain ⟨b', g, e, -, -, hbx, -⟩ := (hE.old hz).block
    cases e
    exact ear_cells hbx
  obtain ⟨c1, c2, c3, c4, c5, c6⟩ := HCE.out w (Below.refl _ _)
  have HRK : Hid (∀ w1, Kept [b] w w1 → ReadyL w1) := fun w1 hk => by
    obtain ⟨⟨T1, f1, e1⟩, ⟨T2, f2, e2⟩, ⟨T3, f3, e3⟩⟩ := id hR
    obtain ⟨b', g, e, -, -, hbx, -⟩ := hE.block
    cases e
    exact hR.kept hk (no_table e1 hbx) (no_table e2 hbx) (no_table e3 hbx)
  have hg2 : verOk v = true ∧ hearsOk ps S.order = true := by unfold earHears at hgood; rwa [Bool.and_eq_true] at hgood
  obtain ⟨hv, hh⟩ := hg2
  have hver := fun wz => lversion_any v wz
  rw [show verErr v = 0 by unfold verErr; rw [hv]; rfl] at hver
  have hod := hS.order
  have hct := hS.count
  have hsd := hS.seed
  obtain ⟨O, eO⟩ : ∃ O : Nat, S.order = O := ⟨S.order.toNat, by omega⟩
  obtain ⟨C, eC⟩ : ∃ C : Nat, S.count = C := ⟨S.count.toNat, by omega⟩
  obtain ⟨U, eU⟩ : ∃ U : Nat, S.seed = U := ⟨S.seed.toNat, by omega⟩
  rw [eO] at hh c3
  rw [eC] at c5
  obtain ⟨N, eN⟩ : ∃ N, N = n * O := ⟨_, rfl⟩
  have hhe := hear_law ps O n N a c w hP hn (by omega) eN hh
  have hN4 : N ≤ 4096 := by
    have h5 := (hears_few hh).1
    rw [hn, ← Int.natCast_mul, ← eN] at h5
    omega
  have hSay : earSays S B sm ps v = if (N : Int) ≠ (C : Int) then ⟨ByteArray.empty, false, 3⟩ else if softOk (nextM sm (tellM S ps) v) = false then ⟨ByteArray.empty, false, 2⟩ else tookM S B (nextM sm (tellM S ps) v) := by
    unfold earSays
    rw [hgood, if_neg (by simp), eO, eC, hn, eN, Int.natCast_mul]
  have hNxt : earNext S sm ps v = if (N : Int) ≠ (C : Int) ∨ softOk (nextM sm (tellM S ps) v) = false then sm else nextM sm (tellM S ps) v := by
    unfold earNext
    rw [hgood, eO, eC, hn, eN, Int.natCast_mul]
    simp
  by_cases hNC : N = C
  · have qN : ((N : Int) != (C : Int)) = false := by simp [hNC]
    subst hNC
    have hsay2 : earSays S B sm ps v = if softOk (nextM sm (tellM S ps) v) = false then ⟨ByteArray.empty, false, 2⟩ else tookM S B (nextM sm (tellM S ps) v) := by rw [hSay, if_neg (by simp)]
    have hnxt2 : earNext S sm ps v = if softOk (nextM sm (tellM S ps) v) = false then sm else nextM sm (tellM S ps) v := by rw [hNxt]; simp
    have hTel : tellM S ps = (List.range N).map fun i => signM (clipM ((heardM (O / 2) O ps ps.length).getD i 0)) ((noiseTo U N).getD i 0) := by
      unfold tellM
      rw [eO, eC, eU, Int.toNat_natCast, Int.toNat_natCast, Int.toNat_natCast]
    have hTb := tell_bd S ps
    have hTl : (tellM S ps).length = N := by rw [tellM_length, eC, Int.toNat_natCast]
    obtain ⟨T, eT⟩ : ∃ T, T = tellM S ps := ⟨_, rfl⟩
    rw [← eT] at hTel hTb hTl hsay2 hnxt2
    have hTs := softBd hTb
    have htel : tellOk T v = true := by unfold tellOk; rw [hTs, hv, hTl, decide_eq_true hN4]; rfl
    obtain ⟨M, eM, hM1, hM4⟩ := codedN_nat hS
    have had : ∀ (wz : World), Below w.heap.size w wz → ∀ g, ArrAt .i64 3 wz g T → Calls Tryz.prog 82 #[.pointer (some ⟨b, 0, none⟩), .slice (some ⟨g, 0, none⟩) N N, .int .i64 v] wz fun e w' => ∃ S', e = .returned (.int .i64 (addErr sm T v)) ∧ BufR 117 (earTail S B) w' ⟨b, 0, none⟩ S' (addM sm T v) ∧ (∀ x ∈ S', x ∈ F ∨ wz.heap.size ≤ x) ∧ Kept [b] wz w' := fun wz hz g ha => by
      have h := add_any (some ⟨g, 0, none⟩) N T v (hR.below hz).col (hE.old hz) (by omega) (by omega) hsm (ArrAt.rdL ha) (by rw [hTl]; unfold maxLen; omega)
      rw [hTl] at h
      exact h
    have hun : ∀ (wz : World) (g : Nat), Rd .i64 wz (some ⟨g, 0, none⟩) (heardM (O / 2) O ps ps.length) → Calls Tryz.prog 83 #[.slice (some ⟨g, 0, none⟩) N N, .int .i64 (U : Int)] wz fun e w' => ∃ g', e = .returned (.slice (some ⟨g', 0, none⟩) N N) ∧ OwnI w' wz.heap.size (.slice (some ⟨g', 0, none⟩) N N) T ∧ Below wz.heap.size wz w' := fun wz g hr => by
      have hhl : (heardM (O / 2) O ps ps.length).length = N := by
        rw [heardM_length _ _ _ _ (Nat.le_refl _), hn, eN]
      have h := uncover_any (heardM (O / 2) O ps ps.length) N U (some ⟨g, 0, none⟩) N wz hr hhl (by omega) hN4 (by omega)
      rw [← hTel] at h
      exact h
    have HU := hid eU
    have HC5 : Hid (S.count = (N : Int)) := eC
    clear hTel hTb eM hM1 hM4 hSay hNxt hgood hh hv eO eC eU hod hsd hTs eT eN
    have hsum : ∀ {w1 : World} {F' : List Nat} {X : List Int}, BufR 117 (earTail S B) w1 ⟨b, 0, none⟩ F' X → EarP w1 ⟨b, 0, none⟩ F' S B X := fun h => h
    cases hq : softOk (nextM sm T v) with
    | false =>
      have hae : addErr sm T v = 2 := by unfold addErr; rw [htel, hq]; rfl
      have ham : addM sm T v = sm := by unfold addM; rw [htel, hq]; rfl
      rw [hsay2, hnxt2, if_pos hq, if_pos hq]
      unfold Told.val
      clear hq htel hsay2 hnxt2
      go_enter Tryz.func37, Tryz.ntmps37
      go_wp2_with (first | (go_at_call 70; refine (hver _).mono ?_; rintro e w2 ⟨rfl, rfl⟩) | (go_at_call 20; refine hhe.mono ?_; rintro e wh ⟨gh, rfl, hah, hbh⟩; have hrh := ArrAt.rdL hah; obtain ⟨d1, d2, d3, d4, d5, d6⟩ := HCE.out wh hbh; rw [HC5.out] at d5) | fail)
      refine wp_mono (region_each (Q := fun e a' w' => e = .normal ∧ ∃ σ : Nat → Value, a' = ({ tmps := (((setAll _ (tbS [38, 39, 40, 41, 42, 43, 44, 45, 46, 47, 48] 11 σ)).set 49 (.int .i64 (addErr sm T v))).set 11 (.int .i64 (addErr sm T v))).toArray, defers := [] } : Act) ∧ ∃ F', BufR 117 (earTail S B) w' ⟨b, 0, none⟩ F' (addM sm T v) ∧ (∀ x ∈ F', x ∈ F ∨ w.heap.size ≤ x) ∧ Kept [b] w w') 13 11 [38, 39, 40, 41, 42, 43, 44, 45, 46, 47, 48]
        [[0], [38], [39], [10], [0], [42], [43], [44], [45], [41, 46], [2]] [1, 2, 11, 9, 5, 6, 7, 8, 9, 11, 11]
        [eqR (.pointer (some ⟨b, 0, none⟩)), eqR (.pointer (some ⟨b, 0, none⟩)), eqR (.pointer (some ⟨b, 0, none⟩)), eqR (.slice (some ⟨gh, 0, none⟩) N N), eqR (.pointer (some ⟨b, 0, none⟩)), eqR (.pointer (some ⟨b, 0, none⟩)), eqR (.pointer (some ⟨b, 0 + 1, none⟩)), eqR (.pointer (some ⟨b, 0 + 1 + 3, none⟩)), eqR (.int .i64 (U : Int)), sumR N T, eqR (.int .i64 v)] wh hmix rfl (by decide) rfl (by decide) (by kernel_rfl) (by kernel_rfl) (by kernel_rfl) (by kernel_rfl) (by kernel_rfl) (by kernel_rfl)
        (by intro R hR; simp only [List.mem_cons, List.not_mem_nil, or_false] at hR; rcases hR with rfl | rfl | rfl | rfl | rfl | rfl | rfl | rfl | rfl | rfl | rfl <;> (first | (exact eqR_mono _) | (exact sumR_mono _ _)))
        (fun i' hi' σ ac wc hbc hp hr Q K hK => by
          have hor : i' = 0 ∨ i' = 1 ∨ i' = 2 ∨ i' = 3 ∨ i' = 4 ∨ i' = 5 ∨ i' = 6 ∨ i' = 7 ∨ i' = 8 ∨ i' = 9 ∨ i' = 10 := by omega
          rcases hor with rfl | rfl | rfl | rfl | rfl | rfl | rfl | rfl | rfl | rfl | rfl
          · have e0 := hr 0 (by decide)
            exact op_value rfl rfl (run_moveQ wc rfl e0) (hK _ wc (grownL wc) rfl)
          · have e38 : ac.eval (.tmp 38) = (.pointer (some ⟨b, 0, none⟩)) := (hr 38 (by decide)).trans (hp 0 (by decide) (by kernel_rfl))
            exact op_value rfl rfl (run_nilL wc rfl e38) (hK _ wc (grownL wc) rfl)
          · have e39 : ac.eval (.tmp 39) = (.pointer (some ⟨b, 0, none⟩)) := (hr 39 (by decide)).trans (hp 1 (by decide) (by kernel_rfl))
            exact op_value rfl rfl (run_fldLink0 wc rfl e39) (hK _ wc (grownL wc) rfl)
          · have e10 := hr 10 (by decide)
            exact op_value rfl rfl (run_moveQ wc rfl e10) (hK _ wc (grownL wc) rfl)
          · have e0 := hr 0 (by decide)
            exact op_value rfl rfl (run_moveQ wc rfl e0) (hK _ wc (grownL wc) rfl)
          · have e42 : ac.eval (.tmp 42) = (.pointer (some ⟨b, 0, none⟩)) := (hr 42 (by decide)).trans (hp 4 (by decide) (by kernel_rfl))
            exact op_value rfl rfl (run_nilL wc rfl e42) (hK _ wc (grownL wc) rfl)
          · have e43 : ac.eval (.tmp 43) = (.pointer (some ⟨b, 0, none⟩)) := (hr 43 (by decide)).trans (hp 5 (by decide) (by kernel_rfl))
            exact op_value rfl rfl (run_fldLink1 wc rfl e43) (hK _ wc (grownL wc) rfl)
          · have e44 : ac.eval (.tmp 44) = (.pointer (some ⟨b, 0 + 1, none⟩)) := (hr 44 (by decide)).trans (hp 6 (by decide) (by kernel_rfl))
            exact op_value rfl rfl (run_fldSet3 wc rfl e44) (hK _ wc (grownL wc) rfl)
          · have e45 : ac.eval (.tmp 45) = (.pointer (some ⟨b, 0 + 1 + 3, none⟩)) := (hr 45 (by decide)).trans (hp 7 (by decide) (by kernel_rfl))
            obtain ⟨-, -, -, c4, -, -⟩ := HCE.out wc (hbh.trans (hbc.mono hbh.size))
            exact op_value rfl rfl (run_loadI wc rfl e45 (HU.out ▸ c4)) (hK _ wc (grownL wc) rfl)
          · have e41 : ac.eval (.tmp 41) = (.slice (some ⟨gh, 0, none⟩) N N) := (hr 41 (by decide)).trans (hp 3 (by decide) (by kernel_rfl))
            have e46 : ac.eval (.tmp 46) = (.int .i64 (U : Int)) := (hr 46 (by decide)).trans (hp 8 (by decide) (by kernel_rfl))
            refine op_callNL rfl rfl rfl (enters_of Tryz.func83 (by kernel_rfl) rfl) (map2L e41 e46) (hun wc _ (hrh.below hbc)) fun e w' hr' => ?_
            obtain ⟨g47, rfl, ho47, hb'⟩ := hr'
            exact ⟨_, rfl, hK _ w' (grown_of_below hb') (show sumR N T _ _ from ⟨g47, rfl, ho47.arr.1⟩)⟩
          · have e2 := hr 2 (by decide)
            exact op_value rfl rfl (run_moveQ wc rfl e2) (hK _ wc (grownL wc) rfl))
        (fun σ wc hbc hp => by
          obtain ⟨g47, q47, h47⟩ := hp 9 (by decide)
          refine op_callNL rfl rfl rfl (enters_of Tryz.func82 (by kernel_rfl) rfl) (map3L ((eval_setAll (t := tbS [38, 39, 40, 41, 42, 43, 44, 45, 46, 47, 48] 11 σ) 40 (show ([38, 39, 40, 41, 42, 43, 44, 45, 46, 47, 48] : List Nat).Nodup by decide) (by kernel_rfl)).trans (hp 2 (by decide))) ((eval_setAll (t := tbS [38, 39, 40, 41, 42, 43, 44, 45, 46, 47, 48] 11 σ) 47 (show ([38, 39, 40, 41, 42, 43, 44, 45, 46, 47, 48] : List Nat).Nodup by decide) (by kernel_rfl)).trans q47) ((eval_setAll (t := tbS [38, 39, 40, 41, 42, 43, 44, 45, 46, 47, 48] 11 σ) 48 (show ([38, 39, 40, 41, 42, 43, 44, 45, 46, 47, 48] : List Nat).Nodup by decide) (by kernel_rfl)).trans (hp 10 (by decide)))) (had wc (hbh.trans (hbc.mono hbh.size)) _ h47) fun e w' hr' => ?_
          obtain ⟨F', rfl, hB', hF', hk'⟩ := hr'
          refine ⟨_, rfl, ?_⟩
          refine op_value rfl rfl (run_assignL w' rfl (v := .int .i64 (addErr sm T v)) (Act.eval_put_same _ _ _ (by simp [setAll_length]))) ?_
          refine ⟨rfl, σ, ?_, F', hB', fun x hx => ?_, ?_⟩
          · exact (congrArg (fun a => Act.put a (some 11) (.int .i64 (addErr sm T v))) (put_list _ 49 _)).trans (put_list _ 11 _)
          · rcases hF' x hx with h | h
            · exact .inl h
            · exact .inr (Nat.le_trans (Nat.le_trans hbh.size hbc.size) h)
          · exact (Kept.of_below (hbh.trans (hbc.mono hbh.size))).trans hk')) ?_
      rintro e a' w1 ⟨rfl, σ1, rfl, F', hB1, hF1, hk1⟩
      rw [show tbS [38, 39, 40, 41, 42, 43, 44, 45, 46, 47, 48] 11 σ1 = [(38, σ1 0), (39, σ1 1), (40, σ1 2), (41, σ1 3), (42, σ1 4), (43, σ1 5), (44, σ1 6), (45, σ1 7), (46, σ1 8), (47, σ1 9), (48, σ1 10)] from rfl]
      dsimp only [setAll, List.set, List.append_nil, List.cons_append, List.nil_append]
      rw [hae] at *
      rw [ham] at hB1
      go_wp2_with fail
      go_ret3
      exact ⟨rfl, F', hsum hB1, hF1, hk1⟩
    | true =>
      have hae : addErr sm T v = 0 := by unfold addErr; rw [htel, hq]; rfl
      have ham : addM sm T v = nextM sm T v := by unfold addM; rw [htel, hq]; rfl
      rw [hsay2, hnxt2, if_neg (by rw [hq]; simp), if_neg (by rw [hq]; simp)]
      have hnl : ((nextM sm T v).length : Int) = codedN S B := by rw [nextM_length]; exact hsl
      have hto : ∀ {w1 : World} {F' : List Nat}, EarP w1 ⟨b, 0, none⟩ F' S B (nextM sm T v) → ReadyL w1 → Calls Tryz.prog 84 #[.pointer (some ⟨b, 0, none⟩)] w1 fun e w' => e = .returned (.tuple #[.string (tookM S B (nextM sm T v)).data, .bool (tookM S B (nextM sm T v)).ok]) ∧ Below w1.heap.size w1 w' := fun h1 h2 => told_any h1 h2 hS hnl hq
      have hte : (tookM S B (nextM sm T v)).err = 0 := by unfold tookM; split <;> rfl
      obtain ⟨X, eX⟩ : ∃ X, X = nextM sm T v := ⟨_, rfl⟩
      rw [← eX] at hto hte ham ⊢
      obtain ⟨tt, ett⟩ : ∃ tt, tt = tookM S B X := ⟨_, rfl⟩
      rw [← ett] at hto hte ⊢
      clear ett
      obtain ⟨da, bo, er⟩ := tt
      obtain rfl : er = 0 := hte
      unfold Told.val
      dsimp only at hto ⊢
      clear hq htel hsay2 hnxt2 hnl eX
      go_enter Tryz.func37, Tryz.ntmps37
      go_wp2_with (first | (go_at_call 70; refine (hver _).mono ?_; rintro e w2 ⟨rfl, rfl⟩) | (go_at_call 20; refine hhe.mono ?_; rintro e wh ⟨gh, rfl, hah, hbh⟩; have hrh := ArrAt.rdL hah; obtain ⟨d1, d2, d3, d4, d5, d6⟩ := HCE.out wh hbh; rw [HC5.out] at d5) | fail)
      refine wp_mono (region_each (Q := fun e a' w' => e = .normal ∧ ∃ σ : Nat → Value, a' = ({ tmps := (((setAll _ (tbS [38, 39, 40, 41, 42, 43, 44, 45, 46, 47, 48] 11 σ)).set 49 (.int .i64 (addErr sm T v))).set 11 (.int .i64 (addErr sm T v))).toArray, defers := [] } : Act) ∧ ∃ F', BufR 117 (earTail S B) w' ⟨b, 0, none⟩ F' (addM sm T v) ∧ (∀ x ∈ F', x ∈ F ∨ w.heap.size ≤ x) ∧ Kept [b] w w') 13 11 [38, 39, 40, 41, 42, 43, 44, 45, 46, 47, 48]
        [[0], [38], [39], [10], [0], [42], [43], [44], [45], [41, 46], [2]] [1, 2, 11, 9, 5, 6, 7, 8, 9, 11, 11]
        [eqR (.pointer (some ⟨b, 0, none⟩)), eqR (.pointer (some ⟨b, 0, none⟩)), eqR (.pointer (some ⟨b, 0, none⟩)), eqR (.slice (some ⟨gh, 0, none⟩) N N), eqR (.pointer (some ⟨b, 0, none⟩)), eqR (.pointer (some ⟨b, 0, none⟩)), eqR (.pointer (some ⟨b, 0 + 1, none⟩)), eqR (.pointer (some ⟨b, 0 + 1 + 3, none⟩)), eqR (.int .i64 (U : Int)), sumR N T, eqR (.int .i64 v)] wh hmix rfl (by decide) rfl (by decide) (by kernel_rfl) (by kernel_rfl) (by kernel_rfl) (by kernel_rfl) (by kernel_rfl) (by kernel_rfl)
        (by intro R hR; simp only [List.mem_cons, List.not_mem_nil, or_false] at hR; rcases hR with rfl | rfl | rfl | rfl | rfl | rfl | rfl | rfl | rfl | rfl | rfl <;> (first | (exact eqR_mono _) | (exact sumR_mono _ _)))
        (fun i' hi' σ ac wc hbc hp hr Q K hK => by
          have hor : i' = 0 ∨ i' = 1 ∨ i' = 2 ∨ i' = 3 ∨ i' = 4 ∨ i' = 5 ∨ i' = 6 ∨ i' = 7 ∨ i' = 8 ∨ i' = 9 ∨ i' = 10 := by omega
          rcases hor with rfl | rfl | rfl | rfl | rfl | rfl | rfl | rfl | rfl | rfl | rfl
          · have e0 := hr 0 (by decide)
            exact op_value rfl rfl (run_moveQ wc rfl e0) (hK _ wc (grownL wc) rfl)
          · have e38 : ac.eval (.tmp 38) = (.pointer (some ⟨b, 0, none⟩)) := (hr 38 (by decide)).trans (hp 0 (by decide) (by kernel_rfl))
            exact op_value rfl rfl (run_nilL wc rfl e38) (hK _ wc (grownL wc) rfl)
          · have e39 : ac.eval (.tmp 39) = (.pointer (some ⟨b, 0, none⟩)) := (hr 39 (by decide)).trans (hp 1 (by decide) (by kernel_rfl))
            exact op_value rfl rfl (run_fldLink0 wc rfl e39) (hK _ wc (grownL wc) rfl)
          · have e10 := hr 10 (by decide)
            exact op_value rfl rfl (run_moveQ wc rfl e10) (hK _ wc (grownL wc) rfl)
          · have e0 := hr 0 (by decide)
            exact op_value rfl rfl (run_moveQ wc rfl e0) (hK _ wc (grownL wc) rfl)
          · have e42 : ac.eval (.tmp 42) = (.pointer (some ⟨b, 0, none⟩)) := (hr 42 (by decide)).trans (hp 4 (by decide) (by kernel_rfl))
            exact op_value rfl rfl (run_nilL wc rfl e42) (hK _ wc (grownL wc) rfl)
          · have e43 : ac.eval (.tmp 43) = (.pointer (some ⟨b, 0, none⟩)) := (hr 43 (by decide)).trans (hp 5 (by decide) (by kernel_rfl))
            exact op_value rfl rfl (run_fldLink1 wc rfl e43) (hK _ wc (grownL wc) rfl)
          · have e44 : ac.eval (.tmp 44) = (.pointer (some ⟨b, 0 + 1, none⟩)) := (hr 44 (by decide)).trans (hp 6 (by decide) (by kernel_rfl))
            exact op_value rfl rfl (run_fldSet3 wc rfl e44) (hK _ wc (grownL wc) rfl)
          · have e45 : ac.eval (.tmp 45) = (.pointer (some ⟨b, 0 + 1 + 3, none⟩)) := (hr 45 (by decide)).trans (hp 7 (by decide) (by kernel_rfl))
            obtain ⟨-, -, -, c4, -, -⟩ := HCE.out wc (hbh.trans (hbc.mono hbh.size))
            exact op_value rfl rfl (run_loadI wc rfl e45 (HU.out ▸ c4)) (hK _ wc (grownL wc) rfl)
          · have e41 : ac.eval (.tmp 41) = (.slice (some ⟨gh, 0, none⟩) N N) := (hr 41 (by decide)).trans (hp 3 (by decide) (by kernel_rfl))
            have e46 : ac.eval (.tmp 46) = (.int .i64 (U : Int)) := (hr 46 (by decide)).trans (hp 8 (by decide) (by kernel_rfl))
            refine op_callNL rfl rfl rfl (enters_of Tryz.func83 (by kernel_rfl) rfl) (map2L e41 e46) (hun wc _ (hrh.below hbc)) fun e w' hr' => ?_
            obtain ⟨g47, rfl, ho47, hb'⟩ := hr'
            exact ⟨_, rfl, hK _ w' (grown_of_below hb') (show sumR N T _ _ from ⟨g47, rfl, ho47.arr.1⟩)⟩
          · have e2 := hr 2 (by decide)
            exact op_value rfl rfl (run_moveQ wc rfl e2) (hK _ wc (grownL wc) rfl))
        (fun σ wc hbc hp => by
          obtain ⟨g47, q47, h47⟩ := hp 9 (by decide)
          refine op_callNL rfl rfl rfl (enters_of Tryz.func82 (by kernel_rfl) rfl) (map3L ((eval_setAll (t := tbS [38, 39, 40, 41, 42, 43, 44, 45, 46, 47, 48] 11 σ) 40 (show ([38, 39, 40, 41, 42, 43, 44, 45, 46, 47, 48] : List Nat).Nodup by decide) (by kernel_rfl)).trans (hp 2 (by decide))) ((eval_setAll (t := tbS [38, 39, 40, 41, 42, 43, 44, 45, 46, 47, 48] 11 σ) 47 (show ([38, 39, 40, 41, 42, 43, 44, 45, 46, 47, 48] : List Nat).Nodup by decide) (by kernel_rfl)).trans q47) ((eval_setAll (t := tbS [38, 39, 40, 41, 42, 43, 44, 45, 46, 47, 48] 11 σ) 48 (show ([38, 39, 40, 41, 42, 43, 44, 45, 46, 47, 48] : List Nat).Nodup by decide) (by kernel_rfl)).trans (hp 10 (by decide)))) (had wc (hbh.trans (hbc.mono hbh.size)) _ h47) fun e w' hr' => ?_
          obtain ⟨F', rfl, hB', hF', hk'⟩ := hr'
          refine ⟨_, rfl, ?_⟩
          refine op_value rfl rfl (run_assignL w' rfl (v := .int .i64 (addErr sm T v)) (Act.eval_put_same _ _ _ (by simp [setAll_length]))) ?_
          refine ⟨rfl, σ, ?_, F', hB', fun x hx => ?_, ?_⟩
          · exact (congrArg (fun a => Act.put a (some 11) (.int .i64 (addErr sm T v))) (put_list _ 49 _)).trans (put_list _ 11 _)
          · rcases hF' x hx with h | h
            · exact .inl h
            · exact .inr (Nat.le_trans (Nat.le_trans hbh.size hbc.size) h)
          · exact (Kept.of_below (hbh.trans (hbc.mono hbh.size))).trans hk')) ?_
      rintro e a' w1 ⟨rfl, σ1, rfl, F', hB1, hF1, hk1⟩
      rw [show tbS [38, 39, 40, 41, 42, 43, 44, 45, 46, 47, 48] 11 σ1 = [(38, σ1 0), (39, σ1 1), (40, σ1 2), (41, σ1 3), (42, σ1 4), (43, σ1 5), (44, σ1 6), (45, σ1 7), (46, σ1 8), (47, σ1 9), (48, σ1 10)] from rfl]
      dsimp only [setAll, List.set, List.append_nil, List.cons_append, List.nil_append]
      rw [hae] at *
      rw [ham] at hB1
      have hRw : ReadyL w1 := HRK.out w1 hk1
      go_wp2_with (first | (go_at_call 84; refine (hto (hsum hB1) hRw).mono ?_; rintro e w4 ⟨rfl, hb4⟩) | fail)
      go_ret3
      exact ⟨rfl, F', (hsum hB1).old hb4, hF1, hk1.trans (Kept.of_below hb4)⟩
  · have qN : ((N : Int) != (C : Int)) = true := by simpa using fun h => hNC (by exact_mod_cast h)
    have hne : (N : Int) ≠ (C : Int) := fun h => hNC (by exact_mod_cast h)
    rw [hSay, hNxt, if_pos hne, if_pos (Or.inl hne)]
    unfold Told.val
    have HC5 := hid eC
    clear hSay hNxt hne hgood hh hv eO eC eU hod hsd eN
    go_enter Tryz.func37, Tryz.ntmps37
    go_wp2_with (first | (go_at_call 70; refine (hver _).mono ?_; rintro e w2 ⟨rfl, rfl⟩) | (go_at_call 20; refine hhe.mono ?_; rintro e wh ⟨gh, rfl, hah, hbh⟩; have hrh := ArrAt.rdL hah; obtain ⟨d1, d2, d3, d4, d5, d6⟩ := HCE.out wh hbh; rw [HC5.out] at d5) | fail)
    go_ret3
    exact ⟨rfl, F, hE.old hbh, fun x hx => .inl hx, Kept.of_below hbh⟩
theorem ltake_any {w : World} {p : Addr} {F : List Nat} {S : Setg} {B : Nat} {sm : List Int} (ps : List (Int × Int)) (a : Option Addr) (n c : Nat) (v : Int) (hR : ReadyL w) (hE : EarP w p F S B sm) (hS : SetOk S B) (hsl : (sm.length : Int) = codedN S B) (hsm : softOk sm = true) (hP : Pts w a ps) (hn : ps.length = n) (hz : n ≤ 8796093022208) :
    Calls Tryz.prog 37 #[.pointer (some p), .slice a n c, .int .i64 v] w fun e w' => e = .returned (earSays S B sm ps v).val ∧ ∃ F', EarP w' p F' S B (earNext S sm ps v) ∧ (∀ x ∈ F', x ∈ F ∨ w.heap.size ≤ x) ∧ Kept [p.block] w w' := by
  obtain ⟨b, g, rfl, -, -, -, -⟩ := hE.block
  cases hh : earHears S ps v with
  | true => exact ltake_good ps a n c v hR hE hS hsl hsm hP hn hz hh
  | false =>
    refine (ltake_bad ps a n c v hE hP hn hz hh).mono fun e w' h => ?_
    obtain ⟨rfl, hb⟩ := h
    refine ⟨?_, F, ?_, fun x hx => .inl hx, Kept.of_below hb⟩
    · unfold earSays; rw [if_pos hh]
    · unfold earNext; rw [if_pos (Or.inl hh)]; exact hE.old hb
end Go.Proofs.YtplkmkbambbemadGreatDoor
namespace Go.Proofs.YtplkmkbambbemadGreatDoor
def loudB (h : Nat) : Bool := (List.range (2 ^ (2 * h))).all fun j => (List.range (2 * h)).all fun k => decide (-64 ≤ heardAt5 h (2 * h) (ptM h ((wordsM (2 * h)).getD j [])) k ∧ heardAt5 h (2 * h) (ptM h ((wordsM (2 * h)).getD j [])) k ≤ 64)
theorem loud1 : loudB 1 = true := by decide +kernel
theorem loud2 : loudB 2 = true := by decide +kernel
theorem loud3 : loudB 3 = true := by decide +kernel
theorem sent_loud {order h k : Nat} {c : List Int} (ho : order = 2 * h) (h1 : 1 ≤ h) (hh : h ≤ 3) (hl : c.length = order) (hb : ∀ x ∈ c, x = 0 ∨ x = 1) (hk : k < order) : -64 ≤ heardAt5 h order (ptM h c) k ∧ heardAt5 h order (ptM h c) k ≤ 64 := by
  obtain ⟨i, hi, e⟩ := words_find hl hb
  have hB : loudB h = true := by
    rcases (show h = 1 ∨ h = 2 ∨ h = 3 by omega) with rfl | rfl | rfl
    · exact loud1
    · exact loud2
    · exact loud3
  subst ho
  have h2 := List.all_eq_true.1 hB i (List.mem_range.2 hi)
  have h3 := List.all_eq_true.1 h2 k (List.mem_range.2 hk)
  have h4 := of_decide_eq_true h3
  rw [e] at h4
  exact h4
end Go.Proofs.YtplkmkbambbemadGreatDoor
namespace Go.Proofs.YtplkmkbambbemadGreatDoor
theorem noise_bdB (U C k : Nat) : 0 ≤ (noiseTo U C).getD k 0 ∧ (noiseTo U C).getD k 0 ≤ 1 := by
  unfold noiseTo
  by_cases hj : k < C
  · have e : ((List.range C).map (noiseAt U)).getD k 0 = noiseAt U k := by simp [List.getD, hj]
    rw [e]
    exact b2i_bd _
  · have e : ((List.range C).map (noiseAt U)).getD k 0 = 0 := by simp [List.getD, hj]
    rw [e]
    omega
theorem tell_clean {S : Setg} {s : ByteArray} (hS : SetOk S s.size) (v i : Nat) (hi : i < S.count.toNat) :
    ((pickedK S (sealM (unpackTo s (8 * s.size))) v).getD i 0 = 0 → 0 < (tellM S (builtM S s v)).getD i 0 ∧ (tellM S (builtM S s v)).getD i 0 ≤ 64) ∧
    ((pickedK S (sealM (unpackTo s (8 * s.size))) v).getD i 0 = 1 → -64 ≤ (tellM S (builtM S s v)).getD i 0 ∧ (tellM S (builtM S s v)).getD i 0 < 0) := by
  have hO := hS.order
  have hC := hS.count
  obtain ⟨O, eO⟩ : ∃ O : Nat, S.order = O := ⟨S.order.toNat, by omega⟩
  obtain ⟨C, eC⟩ : ∃ C : Nat, S.count = C := ⟨S.count.toNat, by omega⟩
  obtain ⟨h, ho, h1, hh⟩ : ∃ h, O = 2 * h ∧ 1 ≤ h ∧ h ≤ 3 := ⟨O / 2, by omega, by omega, by omega⟩
  obtain ⟨pk, epk⟩ : ∃ pk, pk = pickedK S (sealM (unpackTo s (8 * s.size))) v := ⟨_, rfl⟩
  have hpl : pk.length = C := by rw [epk, pickedK_length, eC, Int.toNat_natCast]
  obtain ⟨nz, enz⟩ : ∃ nz, nz = noiseTo S.seed.toNat S.count.toNat := ⟨_, rfl⟩
  have hnb := fun k => noise_bdB S.seed.toNat S.count.toNat k
  rw [← enz] at hnb
  obtain ⟨c, ec⟩ : ∃ c, c = addTo pk nz C := ⟨_, rfl⟩
  have hcl : c.length = C := by rw [ec, addTo_length]
  have hcb : AllBits c := by rw [ec]; exact addTo_all _ _ _
  obtain ⟨m, em⟩ : ∃ m, m = C / O := ⟨_, rfl⟩
  have hm : C = m * O := by
    rw [em]
    have h4 : C % O = 0 := by have := hC.2.2; rw [eO, eC] at this; omega
    exact (Nat.div_mul_cancel (Nat.dvd_of_mod_eq_zero h4)).symm
  have eb : builtM S s v = sentM h c O m := by
    unfold builtM coverM
    rw [pickedK_length, ← epk, ← enz, eC, eO, Int.toNat_natCast, Int.toNat_natCast, ← ec, ← em, show O / 2 = h by omega]
  rw [eC, Int.toNat_natCast] at hi
  have et : (tellM S (builtM S s v)).getD i 0 = signM (clipM ((heardM h O (sentM h c O m) (sentM h c O m).length).getD i 0)) (nz.getD i 0) := by
    rw [eb]
    unfold tellM
    rw [← enz, eC, eO, Int.toNat_natCast, Int.toNat_natCast, show O / 2 = h by omega]
    simp [List.getD, hi]
  have hi2 : i / O < m := by
    rw [hm] at hi
    exact Nat.div_lt_of_lt_mul (by rw [Nat.mul_comm]; exact hi)
  have hk : i % O < O := Nat.mod_lt _ (by omega)
  have hdm : i / O * O + i % O = i := by rw [Nat.mul_comm]; exact Nat.div_add_mod i O
  have hs : (sentM h c O m).length = m := by simp [sentM]
  have hh1 : (heardM h O (sentM h c O m) (sentM h c O m).length).getD i 0 = heardAt5 h O (ptM h (chunkM c O (i / O))) (i % O) := by
    have h5 := heardM_at (h := h) (order := O) (ps := sentM h c O m) (i := i / O) (k := i % O) (by rw [hs]; exact hi2) hk
    rw [hdm, sentM_at c hi2] at h5
    exact h5
  have hci : (chunkM c O (i / O)).getD (i % O) 0 = c.getD i 0 := by
    unfold chunkM
    simp only [List.getD, List.getElem?_take, List.getElem?_drop]
    rw [if_pos hk, hdm]
  have hle : i / O * O + O ≤ C := by
    rw [hm]
    have : (i / O + 1) * O ≤ m * O := Nat.mul_le_mul_right O hi2
    rw [Nat.add_mul, Nat.one_mul] at this
    exact this
  have hchl : (chunkM c O (i / O)).length = O := by
    unfold chunkM
    rw [List.length_take, List.length_drop, hcl]
    omega
  have hchb : ∀ x ∈ chunkM c O (i / O), x = 0 ∨ x = 1 := fun x hx => by
    have := hcb x (List.mem_of_mem_drop (List.mem_of_mem_take hx))
    omega
  have hcv : c.getD i 0 = (pk.getD i 0 + nz.getD i 0) % 2 := by rw [ec]; simp [addTo, List.getD, hi]
  have hld := sent_loud ho h1 hh hchl hchb hk
  rw [et, hh1, ← epk]
  have hcc := hcb.at i
  have hone := sent_one ho h1 hh hchl hchb hk
  have hnou := sent_nought ho h1 hh hchl hchb hk
  rw [hci] at hone hnou
  generalize heardAt5 h O (ptM h (chunkM c O (i / O))) (i % O) = x at *
  have hcx : clipM x = x := by unfold clipM; rw [if_neg (by omega), if_neg (by omega)]
  rw [hcx]
  have hn := hnb i
  rcases (show nz.getD i 0 = 0 ∨ nz.getD i 0 = 1 by omega) with e0 | e0
  · rw [e0] at hcv ⊢
    unfold signM
    rw [if_neg (by decide)]
    refine ⟨fun hp => ?_, fun hp => ?_⟩
    · rw [hp] at hcv
      have := hnou hcv
      omega
    · rw [hp] at hcv
      have := hone hcv
      omega
  · rw [e0] at hcv ⊢
    unfold signM
    rw [if_pos rfl]
    refine ⟨fun hp => ?_, fun hp => ?_⟩
    · rw [hp] at hcv
      have := hone hcv
      omega
    · rw [hp] at hcv
      have := hnou hcv
      omega
end Go.Proofs.YtplkmkbambbemadGreatDoor
namespace Go.Proofs.YtplkmkbambbemadGreatDoor
/-- How many of the first k are picked at j. -/
def hitsTo (ps : List Nat) (j : Nat) : Nat → Nat
  | 0 => 0
  | k + 1 => hitsTo ps j k + if ps.getD k 0 = j then 1 else 0
theorem comes_hits {ps : List Nat} {xs : List Int} {j : Nat} : ∀ {k : Nat}, (∀ i, i < k → ps.getD i 0 = j → -64 ≤ xs.getD i 0 ∧ xs.getD i 0 ≤ 64) → -64 * (hitsTo ps j k : Int) ≤ comesTo ps xs j k ∧ comesTo ps xs j k ≤ 64 * (hitsTo ps j k : Int)
  | 0, _ => by simp [comesTo, hitsTo]
  | k + 1, h => by
    have ih := comes_hits (ps := ps) (xs := xs) (j := j) (k := k) fun i hi e => h i (by omega) e
    rw [comesTo, hitsTo]
    by_cases e : ps.getD k 0 = j
    · have := h k (by omega) e
      rw [if_pos e, if_pos e]
      omega
    · rw [if_neg e, if_neg e]
      omega
/-- How many t below a have the rest r. -/
def restTo (n r : Nat) : Nat → Nat
  | 0 => 0
  | k + 1 => restTo n r k + if k % n = r then 1 else 0
theorem rest_eq {n r : Nat} (hr : r < n) : ∀ k, restTo n r k = (k + (n - 1 - r)) / n
  | 0 => by rw [restTo, Nat.div_eq_of_lt (by omega)]
  | k + 1 => by
    rw [restTo, rest_eq hr k, show k + 1 + (n - 1 - r) = k + (n - 1 - r) + 1 by omega, Nat.succ_div]
    congr 1
    by_cases e : k % n = r
    · rw [if_pos e, if_pos]
      refine Nat.dvd_of_mod_eq_zero ?_
      have h1 : k + (n - 1 - r) + 1 = n * (k / n + 1) := by
        have := Nat.div_add_mod k n
        rw [Nat.mul_add]
        omega
      rw [h1]
      exact Nat.mul_mod_right _ _
    · rw [if_neg e, if_neg]
      intro hd
      apply e
      obtain ⟨q, hq⟩ := hd
      have hk : k = n * (q - 1) + r := by
        cases q with
        | zero => simp at hq
        | succ q => rw [Nat.mul_add] at hq; simp; omega
      rw [hk, Nat.mul_add_mod, Nat.mod_eq_of_lt hr]
theorem pickTo_atB {n v c j : Nat} (h : j < c) : (pickTo n v c).getD j 0 = pickM n v j := by simp [pickTo, List.getD, h]
theorem hits_rest {n v j c r : Nat} (h1 : 1 ≤ n) (hr : r < n) (hj : (ordM n).getD r 0 = j) : ∀ k, k ≤ c → hitsTo (pickTo n v c) j k + restTo n r (n * v / 4) = restTo n r (n * v / 4 + k)
  | 0, _ => by simp [hitsTo]
  | k + 1, hk => by
    have ih := hits_rest (v := v) (c := c) h1 hr hj k (by omega)
    rw [hitsTo, show n * v / 4 + (k + 1) = n * v / 4 + k + 1 by omega, restTo, ← ih, pickTo_atB hk]
    have hiff : pickM n v k = j ↔ (n * v / 4 + k) % n = r := by
      unfold pickM
      have hm : (n * v / 4 + k) % n < n := Nat.mod_lt _ (by omega)
      refine ⟨fun e => ?_, fun e => by rw [e]; exact hj⟩
      rw [← hj] at e
      have hl := ordM_length n
      have e1 : (ordM n).getD ((n * v / 4 + k) % n) 0 = (ordM n)[(n * v / 4 + k) % n]'(by omega) := by simp [List.getD, hl, hm]
      have e2 : (ordM n).getD r 0 = (ordM n)[r]'(by omega) := by simp [List.getD, hl, hr]
      rw [e1, e2] at e
      have hp := List.pairwise_iff_getElem.1 (ordM_nodup n)
      rcases Nat.lt_trichotomy ((n * v / 4 + k) % n) r with h2 | h2 | h2
      · exact absurd e (hp _ _ (by omega) (by omega) h2)
      · exact h2
      · exact absurd e.symm (hp _ _ (by omega) (by omega) h2)
    by_cases e : pickM n v k = j
    · rw [if_pos e, if_pos (hiff.1 e)]
      omega
    · rw [if_neg e, if_neg (fun h => e (hiff.2 h))]
      omega
theorem div_add_le (a b n : Nat) (hn : 1 ≤ n) : (a + b) / n ≤ a / n + b / n + 1 := by
  have h1 := Nat.div_add_mod a n
  have h2 := Nat.div_add_mod b n
  have h3 := Nat.mod_lt a hn
  have h4 := Nat.mod_lt b hn
  have : (a + b) / n < a / n + b / n + 2 := by
    refine Nat.div_lt_of_lt_mul ?_
    rw [Nat.mul_add, Nat.mul_add]
    omega
  omega
theorem div_add_ge (a b n : Nat) (hn : 1 ≤ n) : a / n + b / n ≤ (a + b) / n := by
  rw [Nat.le_div_iff_mul_le (by omega), Nat.add_mul]
  have h1 := Nat.div_mul_le_self a n
  have h2 := Nat.div_mul_le_self b n
  omega
/-- A place is picked at least C / n times, at most once more. -/
theorem hits_bd {n v j c : Nat} (h1 : 1 ≤ n) (hj : j < n) : c / n ≤ hitsTo (pickTo n v c) j c ∧ hitsTo (pickTo n v c) j c ≤ c / n + 1 := by
  obtain ⟨r, hr, e⟩ := List.getElem_of_mem (mem_ordM.2 hj)
  have hl := ordM_length n
  have hr' : r < n := by omega
  have e2 : (ordM n).getD r 0 = j := by simp [List.getD, hr, e]
  have h := hits_rest (v := v) (c := c) h1 hr' e2 c (Nat.le_refl _)
  rw [rest_eq hr', rest_eq hr', show n * v / 4 + c + (n - 1 - r) = n * v / 4 + (n - 1 - r) + c by omega] at h
  have h2 := div_add_le (n * v / 4 + (n - 1 - r)) c n h1
  have h3 := div_add_ge (n * v / 4 + (n - 1 - r)) c n h1
  omega
end Go.Proofs.YtplkmkbambbemadGreatDoor
namespace Go.Proofs.YtplkmkbambbemadGreatDoor
def sealedOf (s : ByteArray) : List Int := sealM (unpackTo s (8 * s.size))
def codedOf (S : Setg) (s : ByteArray) : List Int := codeL S (sealedOf s)
def toldOf (S : Setg) (s : ByteArray) (v : Nat) : List Int := tellM S (builtM S s v)
def comOf (S : Setg) (s : ByteArray) (j v : Nat) : Int := comesTo (pickTo (codedOf S s).length v S.count.toNat) (toldOf S s v) j S.count.toNat
/-- The sums of versions, in their order. -/
def sumsV (S : Setg) (s : ByteArray) (vs : List Nat) : List Int := vs.foldl (fun t v => nextM t (toldOf S s v) (v : Int)) (List.replicate (codedOf S s).length 0)
theorem toldOf_length (S : Setg) (s : ByteArray) (v : Nat) : (toldOf S s v).length = S.count.toNat := tellM_length _ _
theorem next_length (t xs : List Int) (v : Int) : (nextM t xs v).length = t.length := by unfold nextM; rw [gathTo_length]
theorem next_at {S : Setg} {s : ByteArray} {t : List Int} (hl : t.length = (codedOf S s).length) (v : Nat) {j : Nat} (hj : j < t.length) : (nextM t (toldOf S s v) (v : Int)).getD j 0 = t.getD j 0 + comOf S s j v := by
  unfold nextM comOf
  rw [gathTo_at _ _ _ _ hj, toldOf_length, hl, Int.toNat_natCast]
theorem fold_at (S : Setg) (s : ByteArray) : ∀ (vs : List Nat) (t : List Int), t.length = (codedOf S s).length → (vs.foldl (fun t v => nextM t (toldOf S s v) (v : Int)) t).length = t.length ∧ ∀ j, j < t.length → (vs.foldl (fun t v => nextM t (toldOf S s v) (v : Int)) t).getD j 0 = t.getD j 0 + (vs.map (comOf S s j)).sum
  | [], t, _ => ⟨rfl, fun j _ => by simp⟩
  | v :: vs, t, hl => by
    have hn := next_length t (toldOf S s v) (v : Int)
    obtain ⟨h1, h2⟩ := fold_at S s vs (nextM t (toldOf S s v) (v : Int)) (hn.trans hl)
    refine ⟨h1.trans hn, fun j hj => ?_⟩
    rw [List.foldl_cons, h2 j (by rw [hn]; exact hj), next_at hl v hj, List.map_cons, List.sum_cons, Int.add_assoc]
theorem sumsV_length (S : Setg) (s : ByteArray) (vs : List Nat) : (sumsV S s vs).length = (codedOf S s).length := by
  unfold sumsV
  rw [(fold_at S s vs _ (List.length_replicate ..)).1, List.length_replicate]
theorem sumsV_at (S : Setg) (s : ByteArray) (vs : List Nat) {j : Nat} (hj : j < (codedOf S s).length) : (sumsV S s vs).getD j 0 = (vs.map (comOf S s j)).sum := by
  unfold sumsV
  rw [(fold_at S s vs _ (List.length_replicate ..)).2 j (by rw [List.length_replicate]; exact hj)]
  have e : (List.replicate (codedOf S s).length (0 : Int)).getD j 0 = 0 := by simp [List.getD, hj]
  rw [e, Int.zero_add]
theorem sumsV_snoc (S : Setg) (s : ByteArray) (vs : List Nat) (v : Nat) : sumsV S s (vs ++ [v]) = nextM (sumsV S s vs) (toldOf S s v) (v : Int) := by
  unfold sumsV
  rw [List.foldl_append]
  rfl
theorem sum_append (a b : List Int) : (a ++ b).sum = a.sum + b.sum := by
  induction a with
  | nil => simp
  | cons x a ih => rw [List.cons_append, List.sum_cons, List.sum_cons, ih, Int.add_assoc]
theorem sum_reverse (a : List Int) : a.reverse.sum = a.sum := by
  induction a with
  | nil => rfl
  | cons x a ih => rw [List.reverse_cons, sum_append, ih, List.sum_cons, List.sum_cons, List.sum_nil, Int.add_zero, Int.add_comm]
/-- In which order versions come makes no difference. -/
theorem sumsV_reverse (S : Setg) (s : ByteArray) (vs : List Nat) : sumsV S s vs.reverse = sumsV S s vs := by
  refine List.ext_getElem (by rw [sumsV_length, sumsV_length]) fun j h1 h2 => ?_
  have hj : j < (codedOf S s).length := by rw [sumsV_length] at h2; exact h2
  have e1 := sumsV_at S s vs.reverse hj
  have e2 := sumsV_at S s vs hj
  rw [List.map_reverse, sum_reverse] at e1
  have e3 := e1.trans e2.symm
  simpa [List.getD, h1, h2] using e3
end Go.Proofs.YtplkmkbambbemadGreatDoor
