import Derived.Test.YtmdfjhnibhmdkafTpHp
import Derived.Test.YtmdfjhnibhmdkafTnH
namespace Go.Proofs.Ytmdfjhnibhmdkaf
open Go.ChangeShapes Go.WideShapes Go.ChangeAt Go.RowKit

/-! THE DOCUMENT'S Slot, whatever is asked. -/

theorem rslot_any (t : TSt) (l : List UsM) (blocks q : Int) (nl c r : Nat) (a : Option Addr) (w : World) (ht : t.Ok) (hq : 1 ≤ q ∧ q ≤ 10000) (hU : Usr w a l) (hnl : l.length = nl) (hm : nl ≤ maxLen) (hnil : a = none → nl = 0 ∧ c = 0) (hT : TurnAt 30 w r q t.last t.opn t.cr) :
    Calls Try.prog 7 #[.pointer (some ⟨r, 0, none⟩), .slice a nl c, .int .i64 blocks] w fun e w' => ∃ v, e = .returned (.tuple #[v, .int .i64 (slotErr l blocks)]) ∧ OwnI w' w.heap.size v (t.says q l blocks) ∧ TurnAt 30 w' r q (t.next q l blocks).last (t.next q l blocks).opn (t.next q l blocks).cr ∧ Kept [r] w w' := by
  by_cases hb : slotB l blocks = true
  · have hs := slotB_iff.1 hb
    obtain ⟨k, rfl⟩ : ∃ k : Nat, blocks = (k : Int) := ⟨blocks.toNat, by have := hs.1; omega⟩
    have e1 : t.next q l k = ⟨(t.run q l k).last, (t.run q l k).opn, (t.run q l k).cr⟩ := if_pos hb
    have e2 : t.says q l k = fillO (t.run q l k).out k := if_pos hb
    have e3 : slotErr l k = 0 := if_pos hb
    have hlen := (ht.run hq hs).2.out
    rw [e1, e2, e3]
    refine (rslot_good l k nl c r t.last t.opn t.cr q a w (by have := hs.1; omega) hU hnl hnil hs.2 hT hq.1 hq.2 ht.cr ht.low ht.last ht.opn).mono ?_
    rintro e w' ⟨go, rfl, h1, h2, h3, h4⟩
    refine ⟨_, rfl, ownI_of_arr h1 h3 ?_ (by have := hs.1; unfold maxLen; omega), h2, h4⟩
    exact fillO_length hlen
  · have e1 : t.next q l blocks = t := if_neg hb
    have e2 : t.says q l blocks = [] := if_neg hb
    have e3 : slotErr l blocks = 1 := if_neg hb
    have hns : ¬ slotOk l blocks := fun h => hb (slotB_iff.2 h)
    rw [e1, e2, e3]
    by_cases hB : blocks < 0 ∨ 100 < blocks
    · refine (rslot_blocks blocks _ _ w hB).mono ?_
      rintro e w' ⟨rfl, rfl⟩
      exact ⟨_, rfl, OwnI.nil _ _, hT, Kept.refl _ _⟩
    · obtain ⟨k, rfl⟩ : ∃ k : Nat, blocks = (k : Int) := ⟨blocks.toNat, by omega⟩
      refine (rslot_bad l k nl c a _ w (by omega) hU hnl hm (fun h => hns ⟨⟨by omega, by omega⟩, h⟩)).mono ?_
      rintro e w' ⟨h, h1⟩
      rcases h with ⟨-, rfl⟩ | h
      · exact ⟨_, rfl, OwnI.nil _ _, hT.below h1, Kept.of_below h1⟩
      · exact h.elim
end Go.Proofs.Ytmdfjhnibhmdkaf
