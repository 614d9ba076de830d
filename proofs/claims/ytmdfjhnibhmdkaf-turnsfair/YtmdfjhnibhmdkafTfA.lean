import Derived.Test.YtmdfjhnibhmdkafTpHp
namespace Go.Proofs.Ytmdfjhnibhmdkaf
open Go.ChangeShapes Go.WideShapes Go.ChangeAt Go.RowKit

/-! TurnsFair: users who all wait; sums modulo 2^64. -/

theorem wrap_step (g f : Int) : wrap64 (wrap64 g + f) = wrap64 (g + f) := by unfold wrap64; omega
theorem wrap_diff {g h d : Int} (e : g - h = d) (hd : -1000000 ≤ d ∧ d ≤ 1000000) : wrap64 (wrap64 g - wrap64 h) = d := by unfold wrap64; omega
def usF (fs : List Int) (n : Nat) : List UsM := (List.range n).map fun (i : Nat) => (⟨(i : Int) + 1, 1000000, fs.getD i 0⟩ : UsM)
theorem usF_length (fs : List Int) (n : Nat) : (usF fs n).length = n := by simp [usF]
theorem usF_at (fs : List Int) {n i : Nat} (h : i < n) : (usF fs n).getD i .zero = ⟨(i : Int) + 1, 1000000, fs.getD i 0⟩ := by
  simp [usF, List.getD, h]
theorem usF_succ (fs : List Int) (n : Nat) : usF fs (n + 1) = usF fs n ++ [⟨(n : Int) + 1, 1000000, fs.getD n 0⟩] := by
  unfold usF
  rw [List.range_succ, List.map_append]
  rfl
def FitsTo (fs : List Int) (n : Nat) : Prop := ∀ i, i < n → 1 ≤ fs.getD i 0 ∧ fs.getD i 0 ≤ 10000
theorem okU_usF {fs : List Int} {n : Nat} (hn : n ≤ 16) (h : FitsTo fs n) : OkU (usF fs n) := by
  intro i hi
  rw [usF_length] at hi
  rw [usF_at fs hi]
  have hf := h i hi
  unfold UsM.ok
  have hb : befU (usF fs n) i < (i : Int) + 1 := by
    unfold befU
    split
    · omega
    · rw [usF_at fs (by omega)]
      show ((i - 1 : Nat) : Int) + 1 < (i : Int) + 1
      omega
  exact decide_eq_true ⟨⟨by show 1 ≤ (i : Int) + 1; omega, by show (i : Int) + 1 ≤ 16; omega, hb⟩, ⟨by show (0 : Int) ≤ 1000000; omega, by show (1000000 : Int) ≤ 1000000; omega⟩, hf⟩
theorem byF_us {fs : List Int} {n : Nat} (f : UsM → Int) (hn : n ≤ 16) (h : FitsTo fs n) {a : Nat} (h1 : 1 ≤ a) (h2 : a ≤ n) : byF f (usF fs n) a = f ⟨(a : Int), 1000000, fs.getD (a - 1) 0⟩ := by
  have := byF_at (f := f) (okU_usF hn h) (i := a - 1) (by rw [usF_length]; omega)
  rw [usF_at fs (by omega)] at this
  have e : ((a - 1 : Nat) : Int) + 1 = (a : Int) := by omega
  rw [e] at this
  simpa using this
theorem byF_us_out {fs : List Int} {n : Nat} (f : UsM → Int) {a : Nat} (h : a = 0 ∨ n < a) : byF f (usF fs n) a = 0 := by
  refine byF_none fun i hi e => ?_
  rw [usF_length] at hi
  rw [usF_at fs hi] at e
  have e' : (i : Int) + 1 = (a : Int) := e
  omega
theorem byF_wait {fs : List Int} {n : Nat} (hn : n ≤ 16) (h : FitsTo fs n) : byF UsM.byt (usF fs n) = waitB n := by
  funext a
  by_cases ha : 1 ≤ a ∧ a ≤ n
  · rw [byF_us UsM.byt hn h ha.1 ha.2, waitB_in ha.1 ha.2]
  · rw [byF_us_out UsM.byt (by omega)]
    exact (if_neg ha).symm
theorem fits16_us {fs : List Int} {n : Nat} (hn : n ≤ 16) (h : FitsTo fs n) : Fits16 (byF UsM.fit (usF fs n)) n := fun a h1 h2 => by
  rw [byF_us UsM.fit hn h h1 h2]
  exact h (a - 1) (by omega)
/-- The greatest of the first so many. -/
def maxTo (fs : List Int) : Nat → Int
  | 0 => 0
  | k + 1 => if maxTo fs k < fs.getD k 0 then fs.getD k 0 else maxTo fs k
theorem maxTo_ge (fs : List Int) : ∀ (n i : Nat), i < n → fs.getD i 0 ≤ maxTo fs n
  | 0, i, h => by omega
  | n + 1, i, h => by
    unfold maxTo
    by_cases e : i = n
    · rw [e]; split <;> omega
    · have := maxTo_ge fs n i (by omega)
      split <;> omega
theorem maxTo_le {fs : List Int} : ∀ {n : Nat}, FitsTo fs n → 0 ≤ maxTo fs n ∧ maxTo fs n ≤ 10000
  | 0, _ => by unfold maxTo; omega
  | n + 1, h => by
    have ih := maxTo_le (n := n) (fun i hi => h i (by omega))
    have := h n (by omega)
    unfold maxTo
    split <;> omega
/-- What a Slot does among users who all wait. -/
structure FairT (q : Int) (fs : List Int) (n : Nat) (G : Nat → Int) (t : TSt) : Prop where
  ok : t.Ok
  s : 1 ≤ n → FairS q (byF UsM.fit (usF fs n)) n G t.last t.opn t.cr
theorem FairT.start {q : Int} {fs : List Int} {n : Nat} (hn : n ≤ 16) (h : FitsTo fs n) : FairT q fs n (fun _ => 0) TSt.new := ⟨TSt.new_ok, fun _ => FairS.start q (fits16_us hn h)⟩
theorem fair_next {q : Int} {fs : List Int} {n blocks : Nat} {G : Nat → Int} {t : TSt} (hq : 1 ≤ q ∧ q ≤ 10000) (hn : n ≤ 16) (hF : FitsTo fs n) (hb : blocks ≤ 63) (h : FairT q fs n G t) :
    slotErr (usF fs n) blocks = 0 ∧ (t.says q (usF fs n) blocks).length = blocks ∧ (n = 0 → ∀ x ∈ t.says q (usF fs n) blocks, x = 0) ∧ (1 ≤ n → ∀ x ∈ t.says q (usF fs n) blocks, 1 ≤ x ∧ x ≤ (n : Int)) ∧ FairT q fs n (fun a => G a + totM (byF UsM.fit (usF fs n)) (t.says q (usF fs n) blocks) a) (t.next q (usF fs n) blocks) := by
  have hO := okU_usF hn hF
  have hsl : slotOk (usF fs n) (blocks : Int) := ⟨⟨by omega, by omega⟩, hO⟩
  have hsb := slotB_iff.2 hsl
  have e1 : t.next q (usF fs n) blocks = ⟨(t.run q (usF fs n) blocks).last, (t.run q (usF fs n) blocks).opn, (t.run q (usF fs n) blocks).cr⟩ := if_pos hsb
  have e2 : t.says q (usF fs n) blocks = fillO (t.run q (usF fs n) blocks).out blocks := if_pos hsb
  have e3 : slotErr (usF fs n) (blocks : Int) = 0 := if_pos hsb
  have hout := (h.ok.run hq hsl).2.out
  have er : t.run q (usF fs n) blocks = slotM q (byF UsM.fit (usF fs n)) blocks ⟨t.last, t.opn, t.cr, waitB n, []⟩ := by
    unfold TSt.run TSt.s0 slot0
    rw [byF_wait hn hF]
    rfl
  refine ⟨e3, by rw [e2]; exact fillO_length hout, fun h0 x hx => ?_, fun h1 x hx => ?_, h.ok.next hq _ _, fun h1 => ?_⟩
  · subst h0
    have hst : t.run q (usF fs 0) blocks = ⟨t.last, t.opn, t.cr, waitB 0, []⟩ := by
      rw [er]
      refine slot_stop fun hc => ?_
      have := firstW_spec hc.2
      have h3 := this.2.2
      have h1 := this.1
      have h4 : waitB 0 (firstW (waitB 0)) = 0 := if_neg (by omega)
      change 0 < waitB 0 (firstW (waitB 0)) at h3
      omega
    rw [e2, hst] at hx
    have hx' : x ∈ fillO [] blocks := hx
    unfold fillO at hx'
    rw [List.nil_append] at hx'
    exact (List.mem_replicate.1 hx').2
  · obtain ⟨f1, f2, f3⟩ := fair_slot hq.1 (fits16_us hn hF) h1 hn hb (h.s h1)
    rw [e2, er] at hx
    unfold fillO at hx
    rw [f1, Nat.sub_self, List.replicate_zero, List.append_nil] at hx
    exact f2 x hx
  · obtain ⟨f1, f2, f3⟩ := fair_slot hq.1 (fits16_us hn hF) h1 hn hb (h.s h1)
    have e4 : t.says q (usF fs n) blocks = (slotM q (byF UsM.fit (usF fs n)) blocks ⟨t.last, t.opn, t.cr, waitB n, []⟩).out := by
      rw [e2, er]
      unfold fillO
      rw [f1, Nat.sub_self, List.replicate_zero, List.append_nil]
    rw [e4, e1, er]
    exact f3
/-- Sums so far, while a Slot's blocks are counted. -/
def gTo (G : Nat → Int) (fits : Nat → Int) (L : List Int) (k : Nat) (a : Nat) : Int := G a + totM fits (L.take k) a
theorem gTo_zero (G fits : Nat → Int) (L : List Int) : gTo G fits L 0 = G := by
  funext a
  unfold gTo
  rw [List.take_zero]
  show G a + 0 = G a
  omega
theorem gTo_all (G fits : Nat → Int) (L : List Int) : gTo G fits L L.length = fun a => G a + totM fits L a := by
  funext a
  unfold gTo
  rw [List.take_length]
theorem gTo_succ (G fits : Nat → Int) {L : List Int} {k x : Nat} (hk : k < L.length) (hx : L.getD k 0 = (x : Int)) : gTo G fits L (k + 1) = upd (gTo G fits L k) x (gTo G fits L k x + fits x) := by
  have e : L.getD k 0 = L[k] := by simp [List.getD, hk]
  funext a
  unfold gTo
  rw [List.take_succ_eq_append_getElem hk, totM_snoc, ← e, hx]
  by_cases ea : a = x
  · subst ea
    rw [upd_at, if_pos rfl]
    omega
  · rw [upd_ne _ _ ea, if_neg (by omega)]
    omega
end Go.Proofs.Ytmdfjhnibhmdkaf
