import Derived.Test.YtmdfjhnibhmdkafTpG
namespace Go.Proofs.Ytmdfjhnibhmdkaf
open Go.ChangeShapes Go.WideShapes Go.ChangeAt Go.RowKit

/-! TURNS, whatever is asked: each call in one form, of the program and of the document. -/

structure TSt where
  last : Nat
  opn : Bool
  cr : Nat → Int
structure TSt.Ok (t : TSt) : Prop where
  last : t.last ≤ 16
  opn : t.opn = true → 1 ≤ t.last
  cr : ∀ a, 0 ≤ t.cr a
  low : ∀ a, t.cr a < 10000 ∨ (t.opn = true ∧ a = t.last ∧ t.cr a < 20000)
def TSt.new : TSt := ⟨0, false, fun _ => 0⟩
theorem TSt.new_ok : TSt.new.Ok := ⟨Nat.zero_le _, fun h => (by cases h), fun _ => Int.le_refl _, fun _ => .inl (show (0 : Int) < 10000 by omega)⟩
def TSt.s0 (t : TSt) (l : List UsM) : SlM := slot0 l t.last t.opn t.cr
def slotB (l : List UsM) (blocks : Int) : Bool := decide (0 ≤ blocks ∧ blocks ≤ 100) && (List.range l.length).all fun i => (l.getD i .zero).ok (befU l i)
theorem slotB_iff {l : List UsM} {blocks : Int} : slotB l blocks = true ↔ slotOk l blocks := by
  unfold slotB slotOk OkU okUTo
  rw [Bool.and_eq_true, decide_eq_true_eq, List.all_eq_true]
  constructor
  · rintro ⟨h1, h2⟩
    exact ⟨h1, fun i hi => h2 i (List.mem_range.2 hi)⟩
  · rintro ⟨h1, h2⟩
    exact ⟨h1, fun i hi => h2 i (List.mem_range.1 hi)⟩
def TSt.run (t : TSt) (q : Int) (l : List UsM) (blocks : Int) : SlM := slotM q (byF UsM.fit l) blocks.toNat (t.s0 l)
def TSt.next (t : TSt) (q : Int) (l : List UsM) (blocks : Int) : TSt := if slotB l blocks = true then ⟨(t.run q l blocks).last, (t.run q l blocks).opn, (t.run q l blocks).cr⟩ else t
def TSt.says (t : TSt) (q : Int) (l : List UsM) (blocks : Int) : List Int := if slotB l blocks = true then fillO (t.run q l blocks).out blocks.toNat else []
def slotErr (l : List UsM) (blocks : Int) : Int := if slotB l blocks = true then 0 else 1
theorem TSt.Ok.s0 {t : TSt} (h : t.Ok) {l : List UsM} (hO : OkU l) (blocks : Nat) : (t.s0 l).Ok blocks := ⟨h.last, h.opn, h.cr, fun a => (byF_le hO a).1, Nat.zero_le _⟩
theorem TSt.Ok.run {t : TSt} (h : t.Ok) {q : Int} (hq : 1 ≤ q ∧ q ≤ 10000) {l : List UsM} {blocks : Int} (hs : slotOk l blocks) : CrB (t.run q l blocks) ∧ (t.run q l blocks).Ok blocks.toNat := by
  have h0 := h.s0 hs.2 blocks.toNat
  have hF : FitOk (byF UsM.fit l) (t.s0 l).bw := fitU hs.2 (Only.start l)
  have := slot_ind (blocks := blocks.toNat) (fits := byF UsM.fit l) hq.1 CrB (fun s hok hf hi _ _ => hi.visit ⟨by omega, hq.2⟩ hok hf) _ (t.s0 l) (Nat.le_refl _) h0 hF h.low
  exact ⟨this.1, this.2.1⟩
theorem TSt.Ok.next {t : TSt} (h : t.Ok) {q : Int} (hq : 1 ≤ q ∧ q ≤ 10000) (l : List UsM) (blocks : Int) : (t.next q l blocks).Ok := by
  unfold TSt.next
  by_cases hb : slotB l blocks = true
  · rw [if_pos hb]
    obtain ⟨h1, h2⟩ := h.run hq (slotB_iff.1 hb)
    exact ⟨h2.last, h2.opn, h2.cr, h1⟩
  · rw [if_neg hb]
    exact h
theorem says_len {t : TSt} {q : Int} {l : List UsM} {blocks : Int} (h : t.Ok) (hq : 1 ≤ q ∧ q ≤ 10000) : (t.says q l blocks).length ≤ 100 := by
  unfold TSt.says
  by_cases hb : slotB l blocks = true
  · rw [if_pos hb]
    have hs := slotB_iff.1 hb
    rw [fillO_length (h.run hq hs).2.out]
    have := hs.1
    omega
  · rw [if_neg hb]
    simp
theorem OwnI.nilS (w : World) (B : Nat) : OwnI w B (.slice none 0 0) [] := OwnI.nil w B

theorem pslot_any (t : TSt) (l : List UsM) (blocks q : Int) (nl c r : Nat) (a : Option Addr) (w : World) (ht : t.Ok) (hq : 1 ≤ q ∧ q ≤ 10000) (hU : Usr w a l) (hnl : l.length = nl) (hm : nl ≤ maxLen) (hT : PTurn w r q t.last t.opn t.cr) :
    Calls Try.prog 6 #[.pointer (some ⟨r, 0, none⟩), .slice a nl c, .int .i64 blocks] w fun e w' => ∃ v, e = .returned (.tuple #[v, .int .i64 (slotErr l blocks)]) ∧ OwnI w' w.heap.size v (t.says q l blocks) ∧ PTurn w' r q (t.next q l blocks).last (t.next q l blocks).opn (t.next q l blocks).cr ∧ Kept [r] w w' := by
  by_cases hb : slotB l blocks = true
  · have hs := slotB_iff.1 hb
    obtain ⟨k, rfl⟩ : ∃ k : Nat, blocks = (k : Int) := ⟨blocks.toNat, by have := hs.1; omega⟩
    have e1 : t.next q l k = ⟨(t.run q l k).last, (t.run q l k).opn, (t.run q l k).cr⟩ := if_pos hb
    have e2 : t.says q l k = fillO (t.run q l k).out k := if_pos hb
    have e3 : slotErr l k = 0 := if_pos hb
    have hlen := (ht.run hq hs).2.out
    rw [e1, e2, e3]
    refine (pslot_good l k nl c r t.last t.opn t.cr q a w (by have := hs.1; omega) hU hnl hs.2 hT hq.1 hq.2 ht.cr ht.low ht.last ht.opn).mono ?_
    rintro e w' ⟨go, rfl, h1, h2, h3, h4⟩
    refine ⟨_, rfl, ownI_of_arr h1 h3 ?_ (by have := hs.1; unfold maxLen; omega), h2, h4⟩
    exact fillO_length hlen
  · have e1 : t.next q l blocks = t := if_neg hb
    have e2 : t.says q l blocks = [] := if_neg hb
    have e3 : slotErr l blocks = 1 := if_neg hb
    rw [e1, e2, e3]
    refine (pslot_bad l blocks nl c a _ w hU hnl hm (fun h => hb (slotB_iff.2 h))).mono ?_
    rintro e w' ⟨rfl, h1⟩
    exact ⟨_, rfl, OwnI.nil _ _, FunAt.below hT h1, Kept.of_below h1⟩

end Go.Proofs.Ytmdfjhnibhmdkaf
