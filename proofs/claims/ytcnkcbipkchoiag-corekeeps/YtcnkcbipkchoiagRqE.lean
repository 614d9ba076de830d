import Derived.Test.YtcnkcbipkchoiagRqD
import Derived.Maps.AppendAt
namespace Go.Proofs.Ytcnkcbipkchoiag
open Go.ChangeShapes Go.WideShapes Go.ChangeAt Go.RowKit

/-! Rows of one's own that grow beside others. -/

theorem keptRow {S : List Nat} {w w' : World} {B n k : Nat} {T : TypeId} {v : Value} {xs : List Value} (h : w.ownsRow B T k v n xs) (hk : Kept S w w') (hs : ∀ g, v.ownBlock = some g → g ∉ S) : w'.ownsRow B T k v n xs := by
  refine ⟨h.1, ?_⟩
  rcases h.2 with h' | ⟨g, cap, cur, h1, h2, h3, h4⟩
  · exact .inl h'
  · have hlt : g < w.heap.size := (Array.getElem?_eq_some_iff.1 h3).1
    exact .inr ⟨g, cap, cur, h1, h2, (hk.block g hlt (hs g (by rw [h1]; rfl))).trans h3, h4⟩
theorem Kept.grownR {w w' : World} {row : Option Nat} (h : w.grownBy w' row) : Kept row.toList w w' := ⟨h.os, h.tape, h.output, h.size, fun k hk hn => h.block k hk (fun e => hn (by rw [← e]; simp))⟩
theorem step_pushR {W : World} {ops : Array Oper} {o : Oper} {a : Act} {K : Act → World → Prop} {Q : Exit → Act → World → Prop} {E : Prop} {v z : Value} {xs news : List Value} {n size bytes : Nat} {t e : TypeId} {i0 : TypeInfo} (B g : Nat) (ht : Try.prog.underlying t = some (.slice e)) (hi : Try.prog.info? e = some i0) (hz : i0.zero = some z) (hsz : i0.size = size) (hby : i0.bytes = bytes) (hzs : z.cells.size = size) (h0 : 0 < size)
    (hown : W.ownsRow B e size v n xs) (hgd : o.guard = none) (s x : Operand) (ho : o.op = .call { callee := .builtin .append, args := #[s, x], argTypes := #[t, t] }) (hs : a.eval s = v) (hx : a.eval x = .slice (some ⟨g, 0, none⟩) 1 1) (hl : news.length = 1 * size) (hc : ∀ (k : Nat) u, news[k]? = some u → W.cell? ⟨g, k, none⟩ = some u) (h1 : ∀ u ∈ news, u.oneCell' = true) (h63 : n + 1 ≤ maxLen) (hlen : (n + 1) * bytes ≤ 140737488355328) (hB : B ≤ W.heap.size)
    (h : ∀ v' w', w'.ownsRow B e size v' (n + 1) (xs ++ news) → W.grownBy w' v.ownBlock → (v'.ownBlock = v.ownBlock ∨ v'.ownBlock = some W.heap.size) → K (a.put o.dst v') w') : if Region.wanted o (yielded ops a.tmps) = true then Oper.wp Try.prog o a W K Q else E := by
  have hw : Region.wanted o (yielded ops a.tmps) = true := by simp [Region.wanted, hgd]
  rw [if_pos hw]
  obtain ⟨v', w', hr, h2, h3, _, h4⟩ := run_append_own_at (P := Try.prog) (w := W) B t o.type e i0 z size bytes ht hi hz hsz hby hzs h0 v n xs hown ⟨g, 0, none⟩ 1 1 news hl (fun j u hj => by rw [Addr.add_lit, Nat.zero_add]; exact hc j u hj) h1 h63 hlen hB
  unfold Oper.wp execOp
  simp only [ho, resolve, invoke, builtin, Sem.run_bind, Sem.run_pure, Result.andThen_ok, List.map_toArray, List.map_cons, List.map_nil, hs, hx, hr]
  exact h v' w' h2 h3 h4
theorem wpList_pushR {W : World} {ops : Array Oper} {rest : List Oper} {o : Oper} {a : Act} {Q : Exit → Act → World → Prop} {v z : Value} {xs news : List Value} {n size bytes : Nat} {t e : TypeId} {i0 : TypeInfo} (B g : Nat) (ht : Try.prog.underlying t = some (.slice e)) (hi : Try.prog.info? e = some i0) (hz : i0.zero = some z) (hsz : i0.size = size) (hby : i0.bytes = bytes) (hzs : z.cells.size = size) (h0 : 0 < size)
    (hown : W.ownsRow B e size v n xs) (hgd : o.guard = none) (s x : Operand) (ho : o.op = .call { callee := .builtin .append, args := #[s, x], argTypes := #[t, t] }) (hs : a.eval s = v) (hx : a.eval x = .slice (some ⟨g, 0, none⟩) 1 1) (hl : news.length = 1 * size) (hc : ∀ (k : Nat) u, news[k]? = some u → W.cell? ⟨g, k, none⟩ = some u) (h1 : ∀ u ∈ news, u.oneCell' = true) (h63 : n + 1 ≤ maxLen) (hlen : (n + 1) * bytes ≤ 140737488355328) (hB : B ≤ W.heap.size)
    (h : ∀ v' w', w'.ownsRow B e size v' (n + 1) (xs ++ news) → W.grownBy w' v.ownBlock → (v'.ownBlock = v.ownBlock ∨ v'.ownBlock = some W.heap.size) → wpList Try.prog ops Q rest (a.put o.dst v') w') : wpList Try.prog ops Q (o :: rest) a W :=
  wpList_append_own_at W hgd s x t ho B e i0 z size bytes ht hi hz hsz hby hzs h0 v n xs hs hown ⟨g, 0, none⟩ 1 1 news hx hl (fun j u hj => by rw [Addr.add_lit, Nat.zero_add]; exact hc j u hj) h1 h63 hlen hB (fun v' w' h2 h3 _ h4 => h v' w' h2 h3 h4)
theorem row_shape {w : World} {B n k : Nat} {T : TypeId} {v : Value} {xs : List Value} (h : w.ownsRow B T k v n xs) : ∃ a c, v = .slice a n c ∧ n ≤ c ∧ c ≤ maxLen ∧ (∀ x, a = some x → ∃ g, x = ⟨g, 0, none⟩ ∧ v.ownBlock = some g) := by
  rcases h.2 with ⟨rfl, rfl⟩ | ⟨g, cap, cur, rfl, _, _, h1, h2, _⟩
  · exact ⟨none, 0, rfl, Nat.le_refl _, by unfold maxLen; omega, fun x e => (by cases e)⟩
  · exact ⟨_, cap, rfl, h1, h2, fun x e => ⟨g, (Option.some.inj e).symm, rfl⟩⟩
theorem row_txs {w : World} {B n c : Nat} {T : TypeId} {a : Option Addr} {l : List ByteArray} (h : w.ownsRow B T 1 (.slice a n c) l.length (l.map Value.string)) : Txs w a l := by
  intro hne
  rcases h.2 with ⟨h', h0⟩ | ⟨g, cap, cur, h', _, hg, _, _, _, ht⟩
  · exact absurd (List.length_eq_zero_iff.1 h0) hne
  · simp only [Value.slice.injEq] at h'
    obtain ⟨rfl, _, _⟩ := h'
    refine ⟨g, 0, rfl, fun i hi => ?_⟩
    have hat : cur[i]? = (l.map Value.string)[i]? := by
      rw [← ht, List.getElem?_take_of_lt (by omega)]
      simp
    rw [Nat.zero_add, cell_of_row _ _ _ _ _ _ hg, hat]
    simp [List.getD, hi]
def cellsPc (l : List PieceM) : List Value := l.flatMap PieceM.cells
theorem cellsPc_snoc (l : List PieceM) (x : PieceM) : cellsPc (l ++ [x]) = cellsPc l ++ x.cells := by simp [cellsPc]
theorem cellsPc_at : ∀ (l : List PieceM) (i k : Nat), i < l.length → k < 4 → (cellsPc l)[i * 4 + k]? = (l.getD i .zero).cells[k]?
  | [], i, _, h, _ => by simp at h
  | x :: l, 0, k, _, hk => by
    have e : cellsPc (x :: l) = x.cells ++ cellsPc l := rfl
    rw [e, List.getElem?_append_left (by show 0 * 4 + k < 4; omega)]
    simp
  | x :: l, i + 1, k, h, hk => by
    have e : cellsPc (x :: l) = x.cells ++ cellsPc l := rfl
    have ih := cellsPc_at l i k (by simpa using h) hk
    have h4 : x.cells.length = 4 := rfl
    rw [e, List.getElem?_append_right (by rw [h4]; omega), h4, show (i + 1) * 4 + k - 4 = i * 4 + k by omega, ih]
    rfl
theorem row_pcs {w : World} {B n c : Nat} {T : TypeId} {a : Option Addr} {l : List PieceM} (h : w.ownsRow B T 4 (.slice a n c) l.length (cellsPc l)) {i : Nat} (hi : i < l.length) : ∃ g, a = some ⟨g, 0, none⟩ ∧ w.cell? ⟨g, i * 4, none⟩ = some (.int .i64 (l.getD i .zero).num) ∧ w.cell? ⟨g, i * 4 + 1, none⟩ = some (.int .i64 (l.getD i .zero).frm) ∧ w.cell? ⟨g, i * 4 + 2, none⟩ = some (.bool (l.getD i .zero).last) ∧ w.cell? ⟨g, i * 4 + 3, none⟩ = some (.string (l.getD i .zero).data) := by
  rcases h.2 with ⟨h', h0⟩ | ⟨g, cap, cur, h', _, hg, _, _, _, ht⟩
  · omega
  · simp only [Value.slice.injEq] at h'
    obtain ⟨rfl, _, _⟩ := h'
    have hat : ∀ k, k < 4 → w.cell? ⟨g, i * 4 + k, none⟩ = (l.getD i .zero).cells[k]? := fun k hk => by
      have : cur[i * 4 + k]? = (cellsPc l)[i * 4 + k]? := by
        rw [← ht, List.getElem?_take_of_lt (by omega)]
        simp
      rw [cell_of_row _ _ _ _ _ _ hg, this, cellsPc_at l i k hi hk]
    exact ⟨g, rfl, hat 0 (by omega), hat 1 (by omega), hat 2 (by omega), hat 3 (by omega)⟩
theorem Try.infoTx : (Try.prog.info? 9).map (fun i => (i.zero, i.size, i.bytes)) = some (some (.string { data := #[] }), 1, 16) := by kernel_rfl

theorem Try.infoPc : (Try.prog.info? 100).map (fun i => (i.zero, i.size, i.bytes)) = some (some (.agg #[.int .i64 0, .int .i64 0, .bool false, .string { data := #[] }]), 4, 40) := by kernel_rfl
end Go.Proofs.Ytcnkcbipkchoiag
