import Derived.Test.YtjpohfghibhkiadGridX
import Derived.Test.YtjpohfghibhkiadPArrs
import Derived.Test.YtjpohfghibhkiadGwA
import Derived.Maps.OwnSet
import Derived.Maps.OwnOps
namespace Go.Proofs.Ytjpohfghibhkiad
open Go.ChangeShapes Go.WideShapes Go.ChangeAt Go.RowKit Go.Maps

/-! THE PROGRAM'S areRows AND isTwice. -/

theorem rowsTo_false {N : Nat} {rs : List (List (Int × Int))} {k : Nat} (h : rowsTo N rs k = false) : ∀ m, rowsTo N rs (k + m) = false
  | 0 => h
  | m + 1 => by rw [← Nat.add_assoc, rowsTo, rowsTo_false h m]; rfl
theorem rows_bad {N : Nat} {rs : List (List (Int × Int))} {k : Nat} (hk : k < rs.length) (h : (rowAt rs k).length ≠ N) : rowsOk N rs = false := by
  have h1 : rowsTo N rs (k + 1) = false := by rw [rowsTo, decide_eq_false h, Bool.and_false]
  have := rowsTo_false h1 (rs.length - (k + 1))
  rwa [show k + 1 + (rs.length - (k + 1)) = rs.length by omega] at this
theorem rows_few {N : Nat} {rs : List (List (Int × Int))} (h : rs.length ≠ 14) : rowsOk N rs = false := by
  have h1 : rowsTo N rs 0 = false := decide_eq_false h
  have := rowsTo_false h1 rs.length
  rwa [Nat.zero_add] at this
theorem rowsTo_good {N : Nat} {rs : List (List (Int × Int))} (h : rs.length = 14) : ∀ k, (∀ i, i < k → (rowAt rs i).length = N) → rowsTo N rs k = true
  | 0, _ => decide_eq_true h
  | k + 1, hk => by rw [rowsTo, rowsTo_good h k (fun i hi => hk i (by omega)), decide_eq_true (hk k (by omega))]; rfl

set_option maxRecDepth 100000 in
set_option maxHeartbeats 4000000 in
theorem areRows_any (N : Nat) (rs : List (List (Int × Int))) (ar : Option Addr) (nr cr : Nat) (w : World) (hR : RowsP w ar rs) (hnr : rs.length = nr) (hzr : nr ≤ 9223372036854775807) (hrz : ∀ i, i < nr → (rowAt rs i).length ≤ 9223372036854775807) :
    Calls Try.prog 25 #[.slice ar nr cr, .int .i64 (N : Int)] w fun e w' => e = .returned (.bool (rowsOk N rs)) ∧ Below w.heap.size w w' := by
  have HNR := hid hnr
  have HRZ := hid hrz
  clear hrz
  by_cases h14 : nr = 14
  · have HGD := hid (fun (h : ∀ i, i < 14 → (rowAt rs i).length = N) => (show true = rowsOk N rs by unfold rowsOk; rw [rowsTo_good (by omega) rs.length (fun i hi => h i (by omega))]))
    have HBD := hid (fun k (hk : k < 14) (h : (rowAt rs k).length ≠ N) => (show false = rowsOk N rs from (rows_bad (by omega) h).symm))
    subst h14
    clear hnr
    go_enter Try.func25, Try.ntmps25
    go_wp2_with fail
    go_loopw [12] (fun q wr => ∃ k : Nat, k ≤ 14 ∧ q = .int .i64 k ∧ Hid (∀ i, i < k → (rowAt rs i).length = N) ∧ Below w.heap.size w wr) (fun q _ => 14 - (intOf q).toNat)
    case atStart => exact ⟨0, Nat.zero_le _, rfl, fun i hi => by omega, Below.refl _ _⟩
    case round =>
      obtain ⟨k, hk, rfl, HK, hbel⟩ := hrel
      by_cases hlt : k < 14
      · have HLT := hid hlt
        have hlt' : k < rs.length := by rw [HNR.out]; exact hlt
        obtain ⟨b1, o1, rfl, hc1⟩ := (hR.below hbel).at hlt'
        obtain ⟨ra, rc, g1, -⟩ := hc1 k hlt'
        have HNX := hid (fun (h : (rowAt rs k).length = N) => (fun i (hi : i < k + 1) => by
          by_cases e : i = k
          · subst e; exact h
          · exact HK.out i (by omega) : ∀ i, i < k + 1 → (rowAt rs i).length = N))
        have HBX := hid (HBD.out k hlt)
        have hLz := HRZ.out k hlt
        obtain ⟨L, eL⟩ : ∃ L, L = (rowAt rs k).length := ⟨_, rfl⟩
        rw [← eL] at g1 HNX HBX hLz
        clear hc1 eL hlt'
        by_cases e : L = N
        · have HE := hid e
          have d1 : ((L : Int) != (N : Int)) = false := by simp [e]
          clear e
          go_wp2_with fail
          go_roundw
          case rel => exact ⟨k + 1, by have := HLT.out; omega, by go_num, HNX.out HE.out, hbel⟩
          case measure => have := HLT.out; simp [intOf]; omega
        · have HV := hid (HBX.out e)
          have d1 : ((L : Int) != (N : Int)) = true := by simp; omega
          clear e HNX HBX
          go_wp2_with fail
          go_ret
          exact ⟨ret_boolG HV.out, hbel⟩
      · obtain rfl : k = 14 := by omega
        have HV := hid (HGD.out HK.out)
        go_wp2_with fail
        go_ret
        exact ⟨ret_boolG HV.out, hbel⟩
  · have HV := hid (show false = rowsOk N rs from (rows_few (by omega)).symm)
    have d1 : ((nr : Int) != 14) = true := by simp; omega
    clear hnr
    go_enter Try.func25, Try.ntmps25
    go_wp2_with fail
    go_ret
    exact ⟨ret_boolG HV.out, Below.refl _ _⟩

/-- How many of the first k parts are who's; how many Whos they have. -/
def cntP (ps : List Prt) (who : Int) : Nat → Nat
  | 0 => 0
  | k + 1 => cntP ps who k + if (prAt ps k).who = who then 1 else 0
def distP (ps : List Prt) : Nat → Nat
  | 0 => 0
  | k + 1 => distP ps k + if cntP ps (prAt ps k).who k = 0 then 1 else 0
theorem cntP_le (ps : List Prt) (who : Int) : ∀ k, cntP ps who k ≤ k
  | 0 => Nat.le_refl _
  | k + 1 => by have := cntP_le ps who k; rw [cntP]; split <;> omega
theorem distP_le (ps : List Prt) : ∀ k, distP ps k ≤ k
  | 0 => Nat.le_refl _
  | k + 1 => by have := distP_le ps k; rw [distP]; split <;> omega
theorem cntP_zero (ps : List Prt) (who : Int) : ∀ k, cntP ps who k = 0 ↔ ∀ j, j < k → (prAt ps j).who ≠ who
  | 0 => by simp [cntP]
  | k + 1 => by
    have ih := cntP_zero ps who k
    rw [cntP]
    by_cases e : (prAt ps k).who = who
    · rw [if_pos e]
      constructor
      · intro h; omega
      · intro h; exact absurd e (h k (by omega))
    · rw [if_neg e]
      constructor
      · intro h j hj
        by_cases ej : j = k
        · subst ej; exact e
        · exact ih.1 (by omega) j (by omega)
      · intro h
        have := ih.2 (fun j hj => h j (by omega))
        omega
theorem dist_dups {ps : List Prt} : ∀ k, NoDups ps k → distP ps k = k
  | 0, _ => rfl
  | k + 1, h => by
    have ih := dist_dups k (fun i hi j hj => h i (by omega) j hj)
    rw [distP, ih, if_pos ((cntP_zero ps _ k).2 fun j hj e => h k (by omega) j hj e.symm)]
theorem dist_lt {ps : List Prt} {i j : Nat} (hj : j < i) (he : (prAt ps i).who = (prAt ps j).who) : ∀ m, distP ps (i + 1 + m) < i + 1 + m
  | 0 => by
    have h1 := distP_le ps i
    have hc : cntP ps (prAt ps i).who i ≠ 0 := fun h => (cntP_zero ps _ i).1 h j hj he.symm
    rw [Nat.add_zero, distP, if_neg hc]
    omega
  | m + 1 => by
    have := dist_lt hj he m
    rw [← Nat.add_assoc, distP]
    split <;> omega
def twiceM (ps : List Prt) : Bool := decide (distP ps ps.length < ps.length)
theorem twice_no {ps : List Prt} (h : NoDups ps ps.length) : twiceM ps = false := decide_eq_false (by rw [dist_dups _ h]; omega)
theorem twice_yes {ps : List Prt} {i j : Nat} (hi : i < ps.length) (hj : j < i) (he : (prAt ps i).who = (prAt ps j).who) : twiceM ps = true := decide_eq_true (by
  have := dist_lt hj he (ps.length - (i + 1))
  rwa [show i + 1 + (ps.length - (i + 1)) = ps.length by omega] at this)
def CntMap (w : World) (gM : Nat) (ps : List Prt) (k : Nat) : Prop := ∃ D : DataW Unit, w.ownsMap Try.prog 3 (plainElem Try.prog 3) gM k D ∧ Maps.size D = distP ps k ∧ ∀ who : Int, D.atKey (.int .i64 who) (.lit (.int .i64 0)) = .lit (.int .i64 (cntP ps who k)) ∧ has D (.int .i64 who) = decide (cntP ps who k ≠ 0)
theorem CntMap.same {w w' : World} {gM k : Nat} {ps : List Prt} (h : CntMap w gM ps k) (e : w'.heap[gM]? = w.heap[gM]?) : CntMap w' gM ps k := by
  obtain ⟨D, ⟨es, clock, hb, r⟩, hD⟩ := h
  exact ⟨D, ⟨es, clock, e.trans hb, r⟩, hD⟩
theorem kept_grownG {w w' : World} {g : Nat} (h : w.grownBy w' (some g)) : Kept [g] w w' := ⟨h.os, h.tape, h.output, h.size, fun k hk hn => h.block k hk (fun e => hn (by simp only [Option.some.injEq] at e; simp [e]))⟩
theorem cnt_new (w : World) (ps : List Prt) : CntMap (w.alloc (.map #[] 0)) w.heap.size ps 0 :=
  ⟨.map [], World.ownsMap_made w Try.prog 3 (plainElem Try.prog 3), rfl, fun _ => ⟨rfl, rfl⟩⟩
theorem CntMap.put {w w' : World} {gM k : Nat} {ps : List Prt} {D : DataW Unit} {wo : Int} (ho : (prAt ps k).who = wo) (hown : w.ownsMap Try.prog 3 (plainElem Try.prog 3) gM k D) (hs : Maps.size D = distP ps k) (hD : ∀ who : Int, D.atKey (.int .i64 who) (.lit (.int .i64 0)) = .lit (.int .i64 (cntP ps who k)) ∧ has D (.int .i64 who) = decide (cntP ps who k ≠ 0))
    (hM : w'.ownsMap Try.prog 3 (plainElem Try.prog 3) gM (k + 1) (D.put (.int .i64 wo) (.lit (.int .i64 ((cntP ps wo k : Nat) + 1))))) : CntMap w' gM ps (k + 1) := by
  subst ho
  refine ⟨_, hM, ?_, fun who => ?_⟩
  · rw [size_put (hown.tidy Try.law3g), (hD _).2, hs, distP]
    by_cases e : cntP ps (prAt ps k).who k = 0
    · rw [if_pos e, if_neg (by simp [e])]
    · rw [if_neg e, if_pos (by simp [e])]; rfl
  · by_cases e : who = (prAt ps k).who
    · subst e
      rw [atKey_put_same hown.isMap (by trivial), has_put_same hown.isMap (by trivial), cntP, if_pos rfl]
      exact ⟨by simp, (decide_eq_true (by omega)).symm⟩
    · rw [atKey_put_other (by simpa using e), has_put_other (by simpa using e), (hD who).1, (hD who).2, cntP, if_neg (fun h => e h.symm)]
      exact ⟨rfl, rfl⟩

set_option maxRecDepth 100000 in
set_option maxHeartbeats 4000000 in
theorem isTwice_any (ps : List Prt) (ap : Option Addr) (np cp : Nat) (w : World) (hP : PrtsP w ap ps) (hnp : ps.length = np) (hz : np ≤ 9223372036854775807) (hB : ∀ i, i < np → (Lit.int .i64 (prAt ps i).who).wf = true) :
    Calls Try.prog 23 #[.slice ap np cp] w fun e w' => e = .returned (.bool (twiceM ps)) ∧ Below w.heap.size w w' := by
  have HNP := hid hnp
  have HTW := hid (show decide (distP ps np < np) = twiceM ps by unfold twiceM; rw [hnp])
  have HB := hid hB
  clear hnp hB
  have hmm := run_make_mapG
  have hC := cnt_new w ps
  go_enter Try.func23, Try.ntmps23
  go_wp2_with fail
  have hb1 : Below w.heap.size w (w.alloc (.map #[] 0)) := (Below.refl _ w).alloc (Nat.le_refl _) _
  have hgM : w.heap.size < (w.alloc (.map #[] 0)).heap.size := by simp
  generalize w.alloc (.map #[] 0) = wM at *
  obtain ⟨gM, eM⟩ : ∃ gM, gM = w.heap.size := ⟨_, rfl⟩
  rw [← eM] at hC hgM
  rw [← eM]
  have HM := hid eM
  clear eM
  go_loopw [9] (fun q wr => ∃ k : Nat, k ≤ np ∧ q = .int .i64 k ∧ CntMap wr gM ps k ∧ Kept [gM] wM wr) (fun q _ => np - (intOf q).toNat)
  case atStart => exact ⟨0, Nat.zero_le _, rfl, hC, Kept.refl _ _⟩
  case round =>
    clear hC
    obtain ⟨k, hk, rfl, hC, hKr⟩ := hrel
    have hbr : Below w.heap.size wM wr := hKr.below hb1.size (fun x hx => by simp at hx; rw [hx, HM.out]; exact Nat.le_refl _)
    have hfin := hb1.trans hbr
    by_cases hlt : k < np
    · have HLT := hid hlt
      have hlt' : k < ps.length := by rw [HNP.out]; exact hlt
      obtain ⟨b1, o1, rfl, hc1⟩ := (hP.below hfin).at hlt'
      obtain ⟨g0, ra, rc, g1, -⟩ := hc1 k hlt'
      have hkey := keyOf_int_mk Try.underlying3 (HB.out k hlt)
      have HC1 := hid (cntP_le ps (prAt ps k).who k)
      obtain ⟨D, hM, hS, hD⟩ := hC
      have HD := hid hD
      have HS := hid hS
      have HAT := hid ((hD (prAt ps k).who).1)
      obtain ⟨wo, ewo⟩ : ∃ wo, (prAt ps k).who = wo := ⟨_, rfl⟩
      have HWO := hid ewo
      obtain ⟨m, em⟩ : ∃ m, m = (prAt ps k).pts.length := ⟨_, rfl⟩
      rw [ewo] at g0 hkey HC1 HAT
      rw [← em] at g1
      obtain ⟨cx, ecx⟩ : ∃ cx, cx = cntP ps wo k := ⟨_, rfl⟩
      rw [← ecx] at HC1 HAT
      have HCX := hid ecx
      have hM' : (wr.alloc (.cells #[.int .i64 wo, .slice ra m rc] 45)).ownsMap Try.prog 3 (plainElem Try.prog 3) gM k D := by
        obtain ⟨es, clock, hb, r⟩ := hM
        exact ⟨es, clock, (Below.heap_alloc _ _ _ (Array.getElem?_eq_some_iff.1 hb).1).trans hb, r⟩
      have hKa := hKr.alloc (.cells #[.int .i64 wo, .slice ra m rc] 45)
      have hcx : cx + 1 ≤ 9223372036854775807 := by have := HC1.out; omega
      have hkm : k < maxLen := by unfold maxLen; omega
      clear hc1 ewo em ecx hD hS hlt'
      go_wp2_with (first
        | (at_lookup; refine wpList_lookup_own_int _ rfl _ _ 69 rfl 3 3 .i64 Try.law3g Try.underlying69 Try.underlying3 (Try.zero3g _) gM k _ rfl hM' _ _ rfl hkey ?_; intro v hat hwz; obtain rfl : v = (cx : Int) := by (rw [HAT.out] at hat; simpa using hat.symm))
        | (at_mapUpdate; refine wpList_mapUpdate_own _ rfl _ _ _ 69 rfl 3 3 Try.law3g Try.underlying69 _ gM k _ rfl hM' hkm _ _ _ rfl rfl hkey _ [] (plainElem_int Try.underlying3 (WalkArith.wf_i64 (by omega))) ?_; intro w8 hM8 hg8))
      go_roundw
      case rel =>
        refine ⟨k + 1, by have := HLT.out; omega, by go_num, CntMap.put HWO.out hM HS.out HD.out ?_, hKa.trans (kept_grownG hg8)⟩
        rw [← HCX.out]
        exact hM8
      case measure => have := HLT.out; simp [intOf]; omega
    · obtain rfl : k = np := by omega
      obtain ⟨D, hM, hS, hD⟩ := hC
      have HS := hid hS
      clear hD hS
      go_wp2_with (at_len; refine wpList_len_own _ rfl _ 69 rfl 3 3 Try.underlying69 _ gM k D rfl hM ?_)
      go_ret
      exact ⟨ret_boolG (by rw [HS.out]; exact HTW.out), hfin⟩
end Go.Proofs.Ytjpohfghibhkiad
