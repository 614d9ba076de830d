import Derived.Test.YtmdfjhnibhmdkafTnC
import Derived.Test.YtmdfjhnibhmdkafArrs
namespace Go.Proofs.Ytmdfjhnibhmdkaf
open Go.ChangeShapes Go.WideShapes Go.ChangeAt Go.RowKit

/-! USERS, in a list and by their numbers; turns in memory. -/

structure UsM where
  who : Int
  byt : Int
  fit : Int
def UsM.zero : UsM := ⟨0, 0, 0⟩
/-- Users that can be read. -/
def Usr (w : World) (a : Option Addr) (l : List UsM) : Prop := l ≠ [] → ∃ b o, a = some ⟨b, o, none⟩ ∧ ∀ i, i < l.length → w.cell? ⟨b, o + i * 3, none⟩ = some (.int .i64 (l.getD i .zero).who) ∧ w.cell? ⟨b, o + i * 3 + 1, none⟩ = some (.int .i64 (l.getD i .zero).byt) ∧ w.cell? ⟨b, o + i * 3 + 2, none⟩ = some (.int .i64 (l.getD i .zero).fit)
theorem Usr.at {w : World} {a : Option Addr} {l : List UsM} (h : Usr w a l) {i : Nat} (hi : i < l.length) : ∃ b o, a = some ⟨b, o, none⟩ ∧ ∀ i, i < l.length → w.cell? ⟨b, o + i * 3, none⟩ = some (.int .i64 (l.getD i .zero).who) ∧ w.cell? ⟨b, o + i * 3 + 1, none⟩ = some (.int .i64 (l.getD i .zero).byt) ∧ w.cell? ⟨b, o + i * 3 + 2, none⟩ = some (.int .i64 (l.getD i .zero).fit) := h (by rintro rfl; simp at hi)
theorem cellT {w w' : World} (hb : Below w.heap.size w w') {a : Addr} {v : Value} (h : w.cell? a = some v) : w'.cell? a = some v := (hb.cell (World.block_lt_of_cell? w _ h)).trans h
theorem Usr.below {w w' : World} {a : Option Addr} {l : List UsM} (h : Usr w a l) (hb : Below w.heap.size w w') : Usr w' a l := by
  intro hne
  obtain ⟨b, o, rfl, hc⟩ := h hne
  exact ⟨b, o, rfl, fun i hi => ⟨cellT hb (hc i hi).1, cellT hb (hc i hi).2.1, cellT hb (hc i hi).2.2⟩⟩
/-- A user that may be, behind another. -/
def UsM.ok (before : Int) (u : UsM) : Bool := decide ((1 ≤ u.who ∧ u.who ≤ 16 ∧ before < u.who) ∧ (0 ≤ u.byt ∧ u.byt ≤ 1000000) ∧ (1 ≤ u.fit ∧ u.fit ≤ 10000))
def befU (l : List UsM) (i : Nat) : Int := if i = 0 then 0 else (l.getD (i - 1) .zero).who
def okUTo (l : List UsM) (k : Nat) : Prop := ∀ i, i < k → (l.getD i .zero).ok (befU l i) = true
def OkU (l : List UsM) : Prop := okUTo l l.length
theorem OkU.at {l : List UsM} (h : OkU l) {i : Nat} (hi : i < l.length) : (1 ≤ (l.getD i .zero).who ∧ (l.getD i .zero).who ≤ 16) ∧ (0 ≤ (l.getD i .zero).byt ∧ (l.getD i .zero).byt ≤ 1000000) ∧ (1 ≤ (l.getD i .zero).fit ∧ (l.getD i .zero).fit ≤ 10000) := by
  have := of_decide_eq_true (h i hi)
  exact ⟨⟨this.1.1, this.1.2.1⟩, this.2.1, this.2.2⟩
theorem OkU.rise {l : List UsM} (h : OkU l) : ∀ (d i : Nat), i + d + 1 < l.length → (l.getD i .zero).who < (l.getD (i + d + 1) .zero).who
  | 0, i, hi => by
    have := of_decide_eq_true (h (i + 1) hi)
    have h2 := this.1.2.2
    unfold befU at h2
    rw [if_neg (by omega), Nat.add_sub_cancel] at h2
    exact h2
  | d + 1, i, hi => by
    have ih := OkU.rise h d i (by omega)
    have := of_decide_eq_true (h (i + d + 1 + 1) (by omega))
    have h2 := this.1.2.2
    unfold befU at h2
    rw [if_neg (by omega), Nat.add_sub_cancel] at h2
    have e : i + (d + 1) + 1 = i + d + 1 + 1 := by omega
    rw [e]
    omega
theorem OkU.inj {l : List UsM} (h : OkU l) {i j : Nat} (hi : i < l.length) (hj : j < l.length) (e : (l.getD i .zero).who = (l.getD j .zero).who) : i = j := by
  rcases Nat.lt_trichotomy i j with hl | hl | hl
  · have := h.rise (j - i - 1) i (by omega)
    rw [show i + (j - i - 1) + 1 = j by omega] at this
    omega
  · exact hl
  · have := h.rise (i - j - 1) j (by omega)
    rw [show j + (i - j - 1) + 1 = i by omega] at this
    omega
/-- Users by their numbers. -/
def byF (f : UsM → Int) (l : List UsM) (a : Nat) : Int := match l.find? fun u => u.who == (a : Int) with
  | some u => f u
  | none => 0
theorem byF_at {f : UsM → Int} {l : List UsM} (h : OkU l) {i : Nat} (hi : i < l.length) : byF f l (l.getD i .zero).who.toNat = f (l.getD i .zero) := by
  have hb := (h.at hi).1
  have e0 : ((l.getD i .zero).who.toNat : Int) = (l.getD i .zero).who := by omega
  unfold byF
  rw [e0]
  have hsome : ∃ u, l.find? (fun u => u.who == (l.getD i .zero).who) = some u := by
    rw [← Option.isSome_iff_exists, List.find?_isSome]
    refine ⟨l[i], List.getElem_mem hi, ?_⟩
    have e : l.getD i .zero = l[i] := by simp [List.getD, hi]
    rw [e]
    exact beq_self_eq_true _
  obtain ⟨u, hu⟩ := hsome
  rw [hu]
  have h1 := List.find?_some hu
  obtain ⟨j, hj, rfl⟩ := List.getElem_of_mem (List.mem_of_find?_eq_some hu)
  have ej : l.getD j .zero = l[j] := by simp [List.getD, hj]
  have h2 : l[j].who = (l.getD i .zero).who := by simpa using h1
  rw [← ej] at h2
  have := h.inj hj hi h2
  subst this
  simp only
  rw [ej]
theorem byF_none {f : UsM → Int} {l : List UsM} {a : Nat} (h : ∀ i, i < l.length → (l.getD i .zero).who ≠ (a : Int)) : byF f l a = 0 := by
  unfold byF
  have : l.find? (fun u => u.who == (a : Int)) = none := by
    rw [List.find?_eq_none]
    intro u hu
    obtain ⟨j, hj, rfl⟩ := List.getElem_of_mem hu
    have e : l.getD j .zero = l[j] := by simp [List.getD, hj]
    have := h j hj
    rw [e] at this
    simpa using this
  rw [this]
/-- The list while a Slot is under way. -/
def curU (l : List UsM) (bw : Nat → Int) : List UsM := l.map fun u => ⟨u.who, bw u.who.toNat, u.fit⟩
theorem curU_length (l : List UsM) (bw : Nat → Int) : (curU l bw).length = l.length := by simp [curU]
theorem curU_at {l : List UsM} (bw : Nat → Int) {i : Nat} (hi : i < l.length) : (curU l bw).getD i .zero = ⟨(l.getD i .zero).who, bw (l.getD i .zero).who.toNat, (l.getD i .zero).fit⟩ := by
  simp [curU, List.getD, hi]
theorem curU_start {l : List UsM} (h : OkU l) : curU l (byF UsM.byt l) = l := by
  refine List.ext_getElem (by simp [curU]) fun i h1 h2 => ?_
  have e := curU_at (l := l) (byF UsM.byt l) h2
  rw [byF_at h h2] at e
  have e1 : (curU l (byF UsM.byt l)).getD i .zero = (curU l (byF UsM.byt l))[i] := by simp [List.getD, h1]
  have e2 : l.getD i .zero = l[i] := by simp [List.getD, h2]
  rw [← e1, e, e2]
theorem curU_get {l : List UsM} {bw : Nat → Int} {j : Nat} (h : j < (curU l bw).length) : (curU l bw)[j] = ⟨(l.getD j .zero).who, bw (l.getD j .zero).who.toNat, (l.getD j .zero).fit⟩ := by
  have hj : j < l.length := by rw [curU_length] at h; exact h
  rw [← curU_at bw hj]
  generalize curU l bw = m at *
  simp [List.getD, h]
theorem curU_set {l : List UsM} (h : OkU l) {bw : Nat → Int} {i : Nat} (hi : i < l.length) (x : Int) : (curU l bw).set i ⟨(l.getD i .zero).who, x, (l.getD i .zero).fit⟩ = curU l (upd bw (l.getD i .zero).who.toNat x) := by
  refine List.ext_getElem (by simp [curU]) fun j h1 h2 => ?_
  have hj : j < l.length := by rw [curU_length] at h2; exact h2
  rw [curU_get h2, List.getElem_set]
  by_cases e : i = j
  · subst e
    rw [if_pos rfl, upd_at]
  · rw [if_neg e]
    have b1 := (h.at hi).1
    have b2 := (h.at hj).1
    rw [upd_ne _ _ (fun he => e (h.inj hi hj (by omega))), curU_get]
/-- Nobody waits who is not in the list. -/
def Only (l : List UsM) (bw : Nat → Int) : Prop := ∀ a : Nat, (∀ i, i < l.length → (l.getD i .zero).who ≠ (a : Int)) → bw a = 0
theorem Only.start (l : List UsM) : Only l (byF UsM.byt l) := fun _ h => byF_none h
theorem Only.any {l : List UsM} (h : OkU l) {bw : Nat → Int} (ho : Only l bw) : (anyB bw = true) ↔ ∃ i, i < l.length ∧ 0 < bw (l.getD i .zero).who.toNat := by
  constructor
  · intro ha
    obtain ⟨h1, h2, h3⟩ := firstW_spec ha
    refine Classical.byContradiction fun hn => ?_
    have := ho (firstW bw) fun i hi e => hn ⟨i, hi, by rw [e]; simpa using h3⟩
    omega
  · rintro ⟨i, hi, hp⟩
    have hb := (h.at hi).1
    unfold anyB
    rw [List.any_eq_true]
    refine ⟨(l.getD i .zero).who.toNat - 1, List.mem_range.2 (by omega), ?_⟩
    rw [show (l.getD i .zero).who.toNat - 1 + 1 = (l.getD i .zero).who.toNat by omega]
    exact decide_eq_true hp
theorem fitU {l : List UsM} (h : OkU l) {bw : Nat → Int} (ho : Only l bw) : FitOk (byF UsM.fit l) bw := ⟨fun a ha => by
  by_cases hex : ∃ i, i < l.length ∧ (l.getD i .zero).who = (a : Int)
  · obtain ⟨i, hi, e⟩ := hex
    have hf := byF_at (f := UsM.fit) h hi
    rw [e, Int.toNat_natCast] at hf
    rw [hf]
    exact (h.at hi).2.2
  · have := ho a fun i hi e => hex ⟨i, hi, e⟩
    omega⟩
end Go.Proofs.Ytmdfjhnibhmdkaf
