import Derived.Test.YtmdfjhnibhmdkafDoorMjC
import Derived.Test.YtmdfjhnibhmdkafDoorPush
namespace Go.Proofs.YtmdfjhnibhmdkafDoor
open Go.ChangeShapes Go.WideShapes Go.ChangeAt Go.RowKit

/-! ITEMS OF ONE'S OWN; what a text is taken apart to. -/

theorem Tryd.infoIt : (Tryd.prog.info? 31).map (fun i => (i.zero, i.size, i.bytes)) = some (some (.agg #[.int .i64 0, .string { data := #[] }]), 2, 24) := by kernel_rfl
def cellsI (l : List ItemM) : List Value := l.flatMap fun t => [.int .i64 t.ch, .string t.data]
theorem cellsI_length (l : List ItemM) : (cellsI l).length = l.length * 2 := by
  induction l with
  | nil => rfl
  | cons x l ih =>
    have : cellsI (x :: l) = [.int .i64 x.ch, .string x.data] ++ cellsI l := rfl
    rw [this, List.length_append, ih]
    simp
    omega
theorem cellsI_snoc (l : List ItemM) (t : ItemM) : cellsI (l ++ [t]) = cellsI l ++ [.int .i64 t.ch, .string t.data] := by
  unfold cellsI
  rw [List.flatMap_append, List.flatMap_singleton]
theorem cellsI_at : ∀ (l : List ItemM) (i : Nat), i < l.length → (cellsI l)[i * 2]? = some (.int .i64 (l.getD i .zero).ch) ∧ (cellsI l)[i * 2 + 1]? = some (.string (l.getD i .zero).data)
  | [], i, h => by simp at h
  | x :: l, 0, _ => ⟨rfl, rfl⟩
  | x :: l, i + 1, h => by
    have e : cellsI (x :: l) = [.int .i64 x.ch, .string x.data] ++ cellsI l := rfl
    have ih := cellsI_at l i (by simpa using h)
    rw [e, show (i + 1) * 2 = 2 + i * 2 by omega, List.getElem?_append_right (by simp), List.getElem?_append_right (by simp; omega)]
    refine ⟨?_, ?_⟩
    · rw [show 2 + i * 2 - [Value.int .i64 x.ch, .string x.data].length = i * 2 by simp]; exact ih.1
    · rw [show 2 + i * 2 + 1 - [Value.int .i64 x.ch, .string x.data].length = i * 2 + 1 by simp; omega]; exact ih.2
def OwnIt (w : World) (B : Nat) (v : Value) (l : List ItemM) : Prop := w.ownsRow B 31 2 v l.length (cellsI l)
theorem OwnIt.nil (w : World) (B : Nat) : OwnIt w B (.slice none 0 0) [] := World.ownsRow_nil _ _ _ _
theorem OwnIt.drew {w : World} {B : Nat} {v : Value} {l : List ItemM} (h : OwnIt w B v l) : OwnIt w.drew B v l := h
theorem OwnIt.blocks {w : World} {B : Nat} {v : Value} {l : List ItemM} (h : OwnIt w B v l) : ∀ k, v.ownBlock = some k → B ≤ k := fun k hk => (h.lt k hk).1
theorem OwnIt.below {w w' : World} {B : Nat} {v : Value} {l : List ItemM} (h : OwnIt w B v l) (hb : Below w.heap.size w w') : OwnIt w' B v l := by
  refine ⟨h.1, ?_⟩
  rcases h.2 with h' | ⟨g, cap, cur, h1, h2, h3, h4⟩
  · exact .inl h'
  · have hlt : g < w.heap.size := (Array.getElem?_eq_some_iff.1 h3).1
    exact .inr ⟨g, cap, cur, h1, h2, (hb.block g hlt).trans h3, h4⟩
theorem OwnIt.shape {w : World} {B : Nat} {v : Value} {l : List ItemM} (h : OwnIt w B v l) : ∃ a c, v = .slice a l.length c ∧ l.length ≤ c ∧ c ≤ maxLen := by
  rcases h.2 with ⟨rfl, h0⟩ | ⟨g, cap, cur, rfl, _, _, h1, h2, _⟩
  · exact ⟨none, 0, by rw [h0], by omega, by unfold maxLen; omega⟩
  · exact ⟨_, cap, rfl, h1, h2⟩
theorem OwnIt.itms {w : World} {B n c : Nat} {a : Option Addr} {l : List ItemM} (h : OwnIt w B (.slice a n c) l) : Itms w a l := by
  intro hne
  have hl0 : 0 < l.length := by
    rcases Nat.eq_zero_or_pos l.length with h0 | h0
    · exact absurd (List.length_eq_zero_iff.1 h0) hne
    · exact h0
  rcases h.2 with ⟨h', h0⟩ | ⟨g, cap, cur, h', _, hg, hlc, _, hcs, ht⟩
  · omega
  · simp only [Value.slice.injEq] at h'
    obtain ⟨rfl, rfl, rfl⟩ := h'
    refine ⟨g, 0, rfl, fun i hi => ?_⟩
    have hc := cellsI_at l i hi
    have hat : ∀ j, j < l.length * 2 → cur[j]? = (cellsI l)[j]? := fun j hj => by
      rw [← ht, List.getElem?_take_of_lt hj]
      simp
    refine ⟨?_, ?_⟩
    · rw [Nat.zero_add, cell_of_row _ _ _ _ _ _ hg, hat _ (by omega)]; exact hc.1
    · rw [Nat.zero_add, cell_of_row _ _ _ _ _ _ hg, hat _ (by omega)]; exact hc.2
/-- 'append(out, t)' of items as a step of a region that draws its order. -/
theorem step_pushIt {W : World} {ops : Array Oper} {o : Oper} {a : Act} {K : Act → World → Prop} {Q : Exit → Act → World → Prop} {E : Prop} {v : Value} {l : List ItemM} (B : Nat) (w00 : World) (g : Nat) (t : ItemM) (hown : OwnIt W B v l) (hgd : o.guard = none) (s x : Operand)
    (ho : o.op = .call { callee := .builtin .append, args := #[s, x], argTypes := #[24, 24] }) (hs : a.eval s = v) (hx : a.eval x = .slice (some ⟨g, 0, none⟩) 1 1) (hc0 : W.cell? ⟨g, 0, none⟩ = some (.int .i64 t.ch)) (hc1 : W.cell? ⟨g, 1, none⟩ = some (.string t.data)) (hlen : l.length < 1000000) (hbel : Below B w00 W) (hB : B ≤ W.heap.size)
    (h : ∀ v' w', OwnIt w' B v' (l ++ [t]) → Below B w00 w' → K (a.put o.dst v') w') : if Region.wanted o (yielded ops a.tmps) = true then Oper.wp Tryd.prog o a W K Q else E := by
  have hw : Region.wanted o (yielded ops a.tmps) = true := by simp [Region.wanted, hgd]
  rw [if_pos hw]
  obtain ⟨i0, hi, hz0, hz1, hz2⟩ := info_parts Tryd.infoIt
  refine wp_append_own W s x 24 ho B 31 i0 (.agg #[.int .i64 0, .string { data := #[] }]) 2 24 Tryd.underlying24 hi hz0 hz1 hz2 rfl (by decide) v _ _ hs hown ⟨g, 0, none⟩ 1 1 [.int .i64 t.ch, .string t.data] hx rfl ?_ ?_ ?_ ?_ hB ?_
  · intro j u hj
    rw [Addr.add_lit, Nat.zero_add]
    match j, hj with
    | 0, hj => simp at hj; subst hj; exact hc0
    | 1, hj => simp at hj; subst hj; exact hc1
  · intro u hu; simp at hu; rcases hu with rfl | rfl <;> rfl
  · unfold maxLen; omega
  · omega
  · intro v' w' h1 h2 _
    refine h v' w' ?_ (hbel.grown h2 hB hown.blocks)
    unfold OwnIt
    rw [List.length_append, cellsI_snoc]
    exact h1

/-- The byte at a place of a text. -/
def byteN (s : ByteArray) (j : Nat) : Nat := if h : j < s.size then s[j].toNat else 0
theorem byteN_eq (s : ByteArray) (j : Nat) (h : j < s.size) : byteN s j = s[j].toNat := by simp [byteN, h]
theorem byteN_lt (s : ByteArray) (j : Nat) : byteN s j < 256 := by
  unfold byteN
  split
  · exact UInt8.toNat_lt _
  · omega
def partN (s : ByteArray) (p : Nat) : Nat := 256 * byteN s (p + 1) + byteN s (p + 2)
def partI (s : ByteArray) (p : Nat) : ItemM := ⟨(byteN s p : Int), s.extract (p + 3) (p + 3 + partN s p)⟩
/-- What a text is taken apart to, from a place on. -/
def parseM (s : ByteArray) : Nat → Nat → Option (List ItemM)
  | 0, _ => some []
  | f + 1, p => if p < s.size ∧ byteN s p ≠ 63 then (if s.size < p + 3 then none else if s.size < p + 3 + partN s p then none else (parseM s f (p + 3 + partN s p)).map (partI s p :: ·)) else some []
def splitM (s : ByteArray) : Option (List ItemM) := if 65535 < s.size then none else match parseM s (s.size + 1) 0 with
  | none => none
  | some l => if (joinM l (s.size : Int)).err = 0 ∧ (joinM l (s.size : Int)).text = s then some l else none
end Go.Proofs.YtmdfjhnibhmdkafDoor
