import Derived.Test.YtpeidccpplfbaaeDoorHsK
import Derived.Test.YtpeidccpplfbaaeDoorHqB
namespace Go.Proofs.YtpeidccpplfbaaeDoor
open Go.ChangeShapes Go.WideShapes Go.ChangeAt Go.RowKit

/-! EACH BLOCK IS TOLD AT MOST ONCE (P20, P21): mathematics. -/

/-- The name of a block by its number. -/
def nameB (n : Nat) : ByteArray := ⟨#[98, 108, 111, 99, 107, 32, UInt8.ofNat (n / 16777216), UInt8.ofNat (n / 65536), UInt8.ofNat (n / 256), UInt8.ofNat n]⟩
theorem nameB_size (n : Nat) : (nameB n).size = 10 := rfl
theorem nameB_inj {i j : Nat} (hi : i < 4294967296) (hj : j < 4294967296) (h : nameB i = nameB j) : i = j := by
  unfold nameB at h
  injection h with h
  have h1 : UInt8.ofNat (i / 16777216) = UInt8.ofNat (j / 16777216) ∧ UInt8.ofNat (i / 65536) = UInt8.ofNat (j / 65536) ∧ UInt8.ofNat (i / 256) = UInt8.ofNat (j / 256) ∧ UInt8.ofNat i = UInt8.ofNat j := by
    simpa using h
  obtain ⟨e1, e2, e3, e4⟩ := h1
  have f1 := congrArg UInt8.toNat e1
  have f2 := congrArg UInt8.toNat e2
  have f3 := congrArg UInt8.toNat e3
  have f4 := congrArg UInt8.toNat e4
  simp only [UInt8.toNat_ofNat'] at f1 f2 f3 f4
  omega
theorem verAt_ok (t : Nat) : verOk (verAt t) = true := by
  have h4 : t % 4 < 4 := Nat.mod_lt _ (by omega)
  unfold verAt
  have hor : t % 4 = 0 ∨ t % 4 = 1 ∨ t % 4 = 2 ∨ t % 4 = 3 := by omega
  rcases hor with h | h | h | h <;> rw [h] <;> decide

/-- What holds between a sender, a receiver, what was handed to the sender, and which blocks were told. -/
structure Once (m : SendM) (r : RecvM) (ds : List ByteArray) (id : Nat → Nat) (T : Nat → Bool) (n : Nat) : Prop where
  ok : m.Ok
  rok : r.ok
  dlen : ds.length = 8
  shut : ∀ k, k < 8 → (m.tat k).busy = true → (m.tat k).opn = false
  data : ∀ k, k < 8 → (m.tat k).busy = true → (m.tat k).data = nameB (id k) ∧ ds.getD k ByteArray.empty = nameB (id k) ∧ id k < n
  dist : ∀ j k, j < 8 → k < 8 → j ≠ k → (m.tat j).busy = true → (m.tat k).busy = true → id j ≠ id k
  free : ∀ k, k < 8 → (m.tat k).busy = false → r.flag.getD k false = (m.tat k).flag
  told : ∀ k, k < 8 → (m.tat k).busy = true → (r.flag.getD k false ≠ (m.tat k).flag → T (id k) = false) ∧ (r.flag.getD k false = (m.tat k).flag → r.heard.getD k false = T (id k))
  late : ∀ i, T i = true → i < n

theorem getD_setL {α : Type} (l : List α) (k j : Nat) (x d : α) (hk : k < l.length) : (l.set k x).getD j d = if j = k then x else l.getD j d := by
  by_cases e : j = k
  · subst e
    simp [List.getD, hk]
  · have e' : k ≠ j := fun h => e h.symm
    simp [List.getD, e, e']

theorem new_tat (l k : Nat) : (SendM.new l).tat k = TryM.zero := by
  simp only [SendM.tat, SendM.new, List.getD, List.getElem?_replicate]
  split <;> rfl
theorem Once.new {l : Nat} (h1 : 1 ≤ l) (h8 : l ≤ 8) : Once (SendM.new l) RecvM.new (List.replicate 8 ByteArray.empty) (fun _ => 0) (fun _ => false) 0 := by
  refine ⟨SendM.new_ok h1 h8, ⟨by simp [RecvM.new], by simp [RecvM.new]⟩, by simp, ?_, ?_, ?_, ?_, ?_, ?_⟩
  · intro k _ h; rw [new_tat] at h; cases h
  · intro k _ h; rw [new_tat] at h; cases h
  · intro j k _ _ _ h; rw [new_tat] at h; cases h
  · intro k hk _
    rw [new_tat]
    simp only [RecvM.new, List.getD, List.getElem?_replicate]
    split <;> rfl
  · intro k _ h; rw [new_tat] at h; cases h
  · intro i h; cases h

/-- A block is handed to the least process that is free. -/
theorem Once.submit {m : SendM} {r : RecvM} {ds : List ByteArray} {id : Nat → Nat} {T : Nat → Bool} {n : Nat} (h : Once m r ds id T n) (hl : m.least < 8) :
    Once (m.set m.least ((m.tat m.least).given (nameB n))) r (ds.set m.least (nameB n)) (fun k => if k = m.least then n else id k) T (n + 1) := by
  have hlen := h.ok.len
  have hfree := SendM.least_free hlen hl
  have ht : ∀ j, (m.set m.least ((m.tat m.least).given (nameB n))).tat j = if j = m.least then (m.tat m.least).given (nameB n) else m.tat j := SendM.tat_set hlen hl _
  generalize m.least = f at *
  refine ⟨h.ok.set hl (given_right h.ok _ _), h.rok, by simp [h.dlen], ?_, ?_, ?_, ?_, ?_, ?_⟩
  · intro k hk hb
    rw [ht] at hb ⊢
    split
    · rfl
    · rename_i e; rw [if_neg e] at hb; exact h.shut k hk hb
  · intro k hk hb
    rw [ht] at hb ⊢
    rw [getD_setL _ _ _ _ _ (by rw [h.dlen]; exact hl)]
    by_cases e : k = f
    · rw [if_pos e, if_pos e, if_pos e]
      exact ⟨rfl, rfl, by omega⟩
    · rw [if_neg e] at hb
      rw [if_neg e, if_neg e, if_neg e]
      obtain ⟨a, b, c⟩ := h.data k hk hb
      exact ⟨a, b, by omega⟩
  · intro j k hj hk hjk hbj hbk
    rw [ht] at hbj hbk
    by_cases ej : j = f
    · rw [if_pos ej]
      have ek : k ≠ f := fun e => hjk (ej.trans e.symm)
      rw [if_neg ek] at hbk ⊢
      have := (h.data k hk hbk).2.2
      omega
    · rw [if_neg ej] at hbj ⊢
      by_cases ek : k = f
      · rw [if_pos ek]
        have := (h.data j hj hbj).2.2
        omega
      · rw [if_neg ek] at hbk ⊢
        exact h.dist j k hj hk hjk hbj hbk
  · intro k hk hb
    rw [ht] at hb ⊢
    by_cases e : k = f
    · rw [if_pos e] at hb; cases hb
    · rw [if_neg e] at hb ⊢
      exact h.free k hk hb
  · intro k hk hb
    rw [ht] at hb ⊢
    by_cases e : k = f
    · rw [if_pos e, if_pos e]
      have hT : T n = false := by
        cases hT : T n with
        | false => rfl
        | true => have := h.late n hT; omega
      have hfl := h.free f hl hfree
      refine ⟨fun _ => hT, fun e2 => ?_⟩
      rw [e, hfl] at e2
      have e3 : (m.tat f).flag = !(m.tat f).flag := e2
      cases hq : (m.tat f).flag <;> rw [hq] at e3 <;> cases e3
    · rw [if_neg e] at hb
      rw [if_neg e, if_neg e]
      exact h.told k hk hb
  · intro i hi
    have := h.late i hi
    omega

/-- What is taken at a try that goes over the air: whether it is fresh, whether it is said to be there. -/
def Once.fresh (T : Nat → Bool) (i : Nat) (hd : Bool) : Bool := !T i && hd
theorem Once.says {m : SendM} {r : RecvM} {ds : List ByteArray} {id : Nat → Nat} {T : Nat → Bool} {n : Nat} (h : Once m r ds id T n) {k : Nat} (hk : k < 8) (hb : (m.tat k).busy = true) (ve : Int) (hv : verOk ve = true) (hd : Bool) (d : ByteArray) (hs : d.size ≤ 1500) (hdd : hd = true → d = nameB (id k)) :
    r.says ⟨(k : Int), ve, (m.tat k).flag, d⟩ hd = ⟨if Once.fresh T (id k) hd then nameB (id k) else ByteArray.empty, Once.fresh T (id k) hd, T (id k) || hd, 0⟩ := by
  rw [says_right r k ve (m.tat k).flag d hd hk hv hs]
  have ht : (r.turned ⟨(k : Int), ve, (m.tat k).flag, d⟩).heard.getD k false = T (id k) := by
    unfold RecvM.turned
    rw [Int.toNat_natCast]
    split
    · rename_i e; exact (h.told k hk hb).2 e
    · rename_i e
      have hl := h.rok.2
      rw [(h.told k hk hb).1 e]
      simp [List.getD, hl, hk]
  rw [ht]
  unfold Once.fresh
  cases hT : T (id k) <;> cases hd <;> simp_all
theorem Once.next {m : SendM} {r : RecvM} {ds : List ByteArray} {id : Nat → Nat} {T : Nat → Bool} {n : Nat} (h : Once m r ds id T n) {k : Nat} (hk : k < 8) (hb : (m.tat k).busy = true) (ve : Int) (hv : verOk ve = true) (hd : Bool) (d : ByteArray) (hs : d.size ≤ 1500) (t : TryM) (htf : t.flag = (m.tat k).flag) (hto : t.opn = false) (htd : t.data = (m.tat k).data) (htr : t.right m.limit) :
    Once (m.set k t) (r.next ⟨(k : Int), ve, (m.tat k).flag, d⟩ hd) ds id (fun i => T i || (decide (i = id k) && Once.fresh T (id k) hd)) n := by
  have hlen := h.ok.len
  have hta := SendM.tat_set hlen hk t
  have hrn := next_right r k ve (m.tat k).flag d hd hk hv hs
  have hto' := turned_ok h.rok ⟨(k : Int), ve, (m.tat k).flag, d⟩
  have hf : ∀ j, j < 8 → (r.turned ⟨(k : Int), ve, (m.tat k).flag, d⟩).flag.getD j false = if j = k then (m.tat k).flag else r.flag.getD j false := by
    intro j _
    unfold RecvM.turned
    rw [Int.toNat_natCast]
    split
    · rename_i e
      split
      · rename_i e2; rw [e2]; exact e
      · rfl
    · exact getD_setL _ _ _ _ _ (by rw [h.rok.1]; exact hk)
  have hh : ∀ j, j < 8 → (r.turned ⟨(k : Int), ve, (m.tat k).flag, d⟩).heard.getD j false = if j = k then T (id k) else r.heard.getD j false := by
    intro j _
    unfold RecvM.turned
    rw [Int.toNat_natCast]
    split
    · rename_i e
      split
      · rename_i e2; rw [e2]; exact (h.told k hk hb).2 e
      · rfl
    · rename_i e
      rw [getD_setL _ _ _ _ _ (by rw [h.rok.2]; exact hk), (h.told k hk hb).1 e]
  have hnf : ∀ j, j < 8 → (r.next ⟨(k : Int), ve, (m.tat k).flag, d⟩ hd).flag.getD j false = if j = k then (m.tat k).flag else r.flag.getD j false := by
    intro j hj
    rw [hrn]
    cases hd
    · exact hf j hj
    · exact hf j hj
  have hnh : ∀ j, j < 8 → (r.next ⟨(k : Int), ve, (m.tat k).flag, d⟩ hd).heard.getD j false = if j = k then (T (id k) || hd) else r.heard.getD j false := by
    intro j hj
    rw [hrn]
    cases hd
    · rw [Bool.or_false]; exact hh j hj
    · rw [Bool.or_true]
      show ((r.turned ⟨(k : Int), ve, (m.tat k).flag, d⟩).heard.set k true).getD j false = _
      rw [getD_setL _ _ _ _ _ (by rw [hto'.2]; exact hk), hh j hj]
      split <;> rfl
  refine ⟨h.ok.set hk htr, next_ok h.rok _ _, h.dlen, ?_, ?_, ?_, ?_, ?_, ?_⟩
  · intro j hj hbj
    rw [hta] at hbj ⊢
    split
    · exact hto
    · rename_i e; rw [if_neg e] at hbj; exact h.shut j hj hbj
  · intro j hj hbj
    rw [hta] at hbj ⊢
    by_cases e : j = k
    · rw [if_pos e, htd, e]; exact h.data k hk hb
    · rw [if_neg e] at hbj ⊢; exact h.data j hj hbj
  · intro i j hi hj hij hbi hbj
    rw [hta] at hbi hbj
    have hbi' : (m.tat i).busy = true := by
      by_cases e : i = k
      · rw [e]; exact hb
      · rw [if_neg e] at hbi; exact hbi
    have hbj' : (m.tat j).busy = true := by
      by_cases e : j = k
      · rw [e]; exact hb
      · rw [if_neg e] at hbj; exact hbj
    exact h.dist i j hi hj hij hbi' hbj'
  · intro j hj hbj
    rw [hta] at hbj ⊢
    rw [hnf j hj]
    by_cases e : j = k
    · rw [if_pos e, if_pos e]; exact htf.symm
    · rw [if_neg e] at hbj
      rw [if_neg e, if_neg e]; exact h.free j hj hbj
  · intro j hj hbj
    rw [hta] at hbj ⊢
    rw [hnf j hj, hnh j hj]
    by_cases e : j = k
    · rw [if_pos e, if_pos e, if_pos e, e]
      refine ⟨fun h2 => absurd htf.symm h2, fun _ => ?_⟩
      unfold Once.fresh
      cases T (id k) <;> cases hd <;> simp
    · rw [if_neg e] at hbj
      rw [if_neg e, if_neg e, if_neg e]
      have hne := h.dist j k hj hk e hbj hb
      simp only [hne, decide_false, Bool.false_and, Bool.or_false]
      exact h.told j hj hbj
  · intro i hi
    rw [Bool.or_eq_true, Bool.and_eq_true, decide_eq_true_eq] at hi
    rcases hi with hi | ⟨rfl, _⟩
    · exact h.late i hi
    · exact (h.data k hk hb).2.2
end Go.Proofs.YtpeidccpplfbaaeDoor
