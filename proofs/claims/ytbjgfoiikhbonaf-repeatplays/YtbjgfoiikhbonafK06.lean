import Derived.Test.YtbjgfoiikhbonafK05
import Derived.Maps.AppendAt
import Derived.Test.YtbjgfoiikhbonafK01
set_option linter.unusedVariables false
set_option linter.unusedSimpArgs false
namespace Go.Proofs.Ytbjgfoiikhbonaf
open Go.ChangeShapes Go.WideShapes Go.ChangeAt Go.RowKit
theorem Cl.few {Snd : World → Addr → List Nat → OutM → Prop} {Rcv : World → Addr → List Nat → InM → Prop} {p q : Addr} {rb tb sb : Nat} {asl : Option Addr} {ns cs : Nat} {texts : List ByteArray} {B : Nat} {w0 w : World} {F G : List Nat} {m : OutM} {r : InM} (h : Cl Snd Rcv p q rb tb sb asl ns cs texts B w0 w F G m r) (hns : texts.length = ns) (h50 : ns ≤ 50) : m.n = ns ∧ m.n ≤ manyU ∧ r.fst ≤ manyU ∧ r.fst ≤ ns := by
  have hn : m.n = ns := by unfold OutM.n; rw [h.text]; exact hns
  have := h.pair.up
  unfold manyU
  omega
theorem emp_falseR {s : ByteArray} (h : s.size ≠ 0) : s.toList.isEmpty = false := by
  rw [ByteArray.toList_eq]
  cases hq : s.data.toList with
  | nil =>
    have e : s.data.toList.length = s.size := by rw [Array.length_toList]; rfl
    rw [hq] at e
    simp at e
    omega
  | cons x l => rfl
theorem piece_new (w : World) (x : PieceM) : (w.alloc (.cells #[.int .i64 x.num, .int .i64 x.frm, .bool x.last, .string x.data] 64)).cell? ⟨w.heap.size, 0, none⟩ = some (.int .i64 x.num) ∧ (w.alloc (.cells #[.int .i64 x.num, .int .i64 x.frm, .bool x.last, .string x.data] 64)).cell? ⟨w.heap.size, 1, none⟩ = some (.int .i64 x.frm) ∧ (w.alloc (.cells #[.int .i64 x.num, .int .i64 x.frm, .bool x.last, .string x.data] 64)).cell? ⟨w.heap.size, 2, none⟩ = some (.bool x.last) ∧ (w.alloc (.cells #[.int .i64 x.num, .int .i64 x.frm, .bool x.last, .string x.data] 64)).cell? ⟨w.heap.size, 3, none⟩ = some (.string x.data) := by
  have hnew := heap_alloc_new w (.cells #[.int .i64 x.num, .int .i64 x.frm, .bool x.last, .string x.data] 64)
  refine ⟨?_, ?_, ?_, ?_⟩ <;> rw [cell_of_row _ _ _ _ _ _ hnew] <;> rfl
/-- A report, and that it is taken. -/
theorem Cl.reports {Snd : World → Addr → List Nat → OutM → Prop} {Rcv : World → Addr → List Nat → InM → Prop} {p q : Addr} {rb tb sb : Nat} {asl : Option Addr} {ns cs : Nat} {texts : List ByteArray} {B : Nat} {w0 w : World} {F G : List Nat} {m : OutM} {r : InM} (L : RepLaws Snd Rcv) (h : Cl Snd Rcv p q rb tb sb asl ns cs texts B w0 w F G m r) (hns : texts.length = ns) (h50 : ns ≤ 50) :
    Calls Try.prog 27 #[.pointer (some q)] w fun e w' => ∃ a n c, e = .returned (.agg #[.int .i64 r.report.next, .slice a n c]) ∧ ∃ G', Grown w.heap.size G G' ∧ Kept G w w' ∧ Cl Snd Rcv p q rb tb sb asl ns cs texts B w0 w' F G' m r ∧ Calls Try.prog 22 #[.pointer (some p), .agg #[.int .i64 r.report.next, .slice a n c]] w' fun e w'' => e = .returned (.int .i64 0) ∧ Kept F w' w'' ∧ ∃ F', Grown w'.heap.size F F' ∧ Cl Snd Rcv p q rb tb sb asl ns cs texts B w0 w'' F' G' (m.taken (r.nxt - m.beg) r.report.miss) r := by
  have hf := h.few hns h50
  refine (L.report h.rcv hf.2.2.1).mono ?_
  rintro e w1 ⟨a, n, c, rfl, hgp, hn, hnl, hnew, hk, G', hr', hg, hni⟩
  have h1 := h.tells L hk hr' hg
  refine ⟨a, n, c, rfl, G', hg, hk, h1, ?_⟩
  have hte := h.pair.take_eq
  have htk := L.take r.report a n c h1.snd hf.2.1 hgp (hnew.notIn (fun x hx => L.slt h.snd x hx)) hn hnl
  rw [hte] at htk
  refine htk.mono ?_
  rintro e w2 ⟨rfl, hk2, F', hs2, hg2⟩
  exact ⟨rfl, hk2, F', hg2, h1.sends L hk2 hs2 hg2 h.pair.taken rfl⟩
end Go.Proofs.Ytbjgfoiikhbonaf
namespace Go.Proofs.Ytbjgfoiikhbonaf
open Go.ChangeShapes Go.WideShapes Go.ChangeAt Go.RowKit
theorem keptRow {S : List Nat} {w w' : World} {B n k : Nat} {T : TypeId} {v : Value} {xs : List Value} (h : w.ownsRow B T k v n xs) (hk : Kept S w w') (hs : ∀ g, v.ownBlock = some g → g ∉ S) : w'.ownsRow B T k v n xs := by
  refine ⟨h.1, ?_⟩
  rcases h.2 with h' | ⟨g, cap, cur, h1, h2, h3, h4⟩
  · exact .inl h'
  · have hlt : g < w.heap.size := (Array.getElem?_eq_some_iff.1 h3).1
    exact .inr ⟨g, cap, cur, h1, h2, (hk.block g hlt (hs g (by rw [h1]; rfl))).trans h3, h4⟩
theorem Kept.grownR {w w' : World} {row : Option Nat} (h : w.grownBy w' row) : Kept row.toList w w' := ⟨h.os, h.tape, h.output, h.size, fun k hk hn => h.block k hk (fun e => hn (by rw [← e]; simp))⟩
theorem step_pushR {W : World} {ops : Array Oper} {o : Oper} {a : Act} {K : Act → World → Prop} {Q : Exit → Act → World → Prop} {E : Prop} {v z : Value} {xs news : List Value} {n size bytes : Nat} {t e : TypeId} {i0 : TypeInfo} (B g : Nat) (ht : Try.prog.underlying t = some (.slice e)) (hi : Try.prog.info? e = some i0) (hz : i0.zero = some z) (hsz : i0.size = size) (hby : i0.bytes = bytes) (hzs : z.cells.size = size) (h0 : 0 < size)
    (hown : W.ownsRow B e size v n xs) (hgd : o.guard = none) (s x : Operand) (ho : o.op = .call { callee := .builtin .append, args := #[s, x], argTypes := #[t, t] }) (hs : a.eval s = v) (hx : a.eval x = .slice (some ⟨g, 0, none⟩) 1 1) (hl : news.length = 1 * size) (hc : ∀ (k : Nat) u, news[k]? = some u → W.cell? ⟨g, k, none⟩ = some u) (h1 : ∀ u ∈ news, u.oneCell' = true) (h63 : n + 1 ≤ maxLen) (hlen : (n + 1) * bytes ≤ 140737488355328) (hB : B ≤ W.heap.size)
    (h : ∀ v' w', w'.ownsRow B e size v' (n + 1) (xs ++ news) → W.grownBy w' v.ownBlock → (v'.ownBlock = v.ownBlock ∨ v'.ownBlock = some W.heap.size) → K (a.put o.dst v') w') : if Region.wanted o (yielded ops a.tmps) = true then Oper.wp Try.prog o a W K Q else E := by
  have hw : Region.wanted o (yielded ops a.tmps) = true := by simp [Region.wanted, hgd]
  rw [if_pos hw]
  obtain ⟨v', w', hr, h2, h3, _, h4⟩ := run_append_own_at (P := Try.prog) (w := W) B t o.type e i0 z size bytes ht hi hz hsz hby hzs h0 v n xs hown ⟨g, 0, none⟩ 1 1 news hl (fun j u hj => by rw [Addr.add_lit, Nat.zero_add]; exact hc j u hj) h1 h63 hlen hB
  unfold Oper.wp execOp
  simp only [ho, resolve, invoke, builtin, Sem.run_bind, Sem.run_pure, Result.andThen_ok, List.map_toArray, List.map_cons, List.map_nil, hs, hx, hr]
  exact h v' w' h2 h3 h4
theorem wpList_pushR {W : World} {ops : Array Oper} {rest : List Oper} {o : Oper} {a : Act} {Q : Exit → Act → World → Prop} {v z : Value} {xs news : List Value} {n size bytes : Nat} {t e : TypeId} {i0 : TypeInfo} (B g : Nat) (ht : Try.prog.underlying t = some (.slice e)) (hi : Try.prog.info? e = some i0) (hz : i0.zero = some z) (hsz : i0.size = size) (hby : i0.bytes = bytes) (hzs : z.cells.size = size) (h0 : 0 < size)
    (hown : W.ownsRow B e size v n xs) (hgd : o.guard = none) (s x : Operand) (ho : o.op = .call { callee := .builtin .append, args := #[s, x], argTypes := #[t, t] }) (hs : a.eval s = v) (hx : a.eval x = .slice (some ⟨g, 0, none⟩) 1 1) (hl : news.length = 1 * size) (hc : ∀ (k : Nat) u, news[k]? = some u → W.cell? ⟨g, k, none⟩ = some u) (h1 : ∀ u ∈ news, u.oneCell' = true) (h63 : n + 1 ≤ maxLen) (hlen : (n + 1) * bytes ≤ 140737488355328) (hB : B ≤ W.heap.size)
    (h : ∀ v' w', w'.ownsRow B e size v' (n + 1) (xs ++ news) → W.grownBy w' v.ownBlock → (v'.ownBlock = v.ownBlock ∨ v'.ownBlock = some W.heap.size) → wpList Try.prog ops Q rest (a.put o.dst v') w') : wpList Try.prog ops Q (o :: rest) a W :=
  wpList_append_own_at W hgd s x t ho B e i0 z size bytes ht hi hz hsz hby hzs h0 v n xs hs hown ⟨g, 0, none⟩ 1 1 news hx hl (fun j u hj => by rw [Addr.add_lit, Nat.zero_add]; exact hc j u hj) h1 h63 hlen hB (fun v' w' h2 h3 _ h4 => h v' w' h2 h3 h4)
theorem row_shape {w : World} {B n k : Nat} {T : TypeId} {v : Value} {xs : List Value} (h : w.ownsRow B T k v n xs) : ∃ a c, v = .slice a n c ∧ n ≤ c ∧ c ≤ maxLen ∧ (∀ x, a = some x → ∃ g, x = ⟨g, 0, none⟩ ∧ v.ownBlock = some g) := by
  rcases h.2 with ⟨rfl, rfl⟩ | ⟨g, cap, cur, rfl, _, _, h1, h2, _⟩
  · exact ⟨none, 0, rfl, Nat.le_refl _, by unfold maxLen; omega, fun x e => (by cases e)⟩
  · exact ⟨_, cap, rfl, h1, h2, fun x e => ⟨g, (Option.some.inj e).symm, rfl⟩⟩
theorem row_txs {w : World} {B n c : Nat} {T : TypeId} {a : Option Addr} {l : List ByteArray} (h : w.ownsRow B T 1 (.slice a n c) l.length (l.map Value.string)) : Txs w a l := by
  intro hne
  rcases h.2 with ⟨h', h0⟩ | ⟨g, cap, cur, h', _, hg, _, _, _, ht⟩
  · exact absurd (List.length_eq_zero_iff.1 h0) hne
  · simp only [Value.slice.injEq] at h'
    obtain ⟨rfl, _, _⟩ := h'
    refine ⟨g, 0, rfl, fun i hi => ?_⟩
    have hat : cur[i]? = (l.map Value.string)[i]? := by
      rw [← ht, List.getElem?_take_of_lt (by omega)]
      simp
    rw [Nat.zero_add, cell_of_row _ _ _ _ _ _ hg, hat]
    simp [List.getD, hi]
def cellsPc (l : List PieceM) : List Value := l.flatMap PieceM.cells
theorem cellsPc_snoc (l : List PieceM) (x : PieceM) : cellsPc (l ++ [x]) = cellsPc l ++ x.cells := by simp [cellsPc]
theorem cellsPc_at : ∀ (l : List PieceM) (i k : Nat), i < l.length → k < 4 → (cellsPc l)[i * 4 + k]? = (l.getD i .zero).cells[k]?
  | [], i, _, h, _ => by simp at h
  | x :: l, 0, k, _, hk => by
    have e : cellsPc (x :: l) = x.cells ++ cellsPc l := rfl
    rw [e, List.getElem?_append_left (by show 0 * 4 + k < 4; omega)]
    simp
  | x :: l, i + 1, k, h, hk => by
    have e : cellsPc (x :: l) = x.cells ++ cellsPc l := rfl
    have ih := cellsPc_at l i k (by simpa using h) hk
    have h4 : x.cells.length = 4 := rfl
    rw [e, List.getElem?_append_right (by rw [h4]; omega), h4, show (i + 1) * 4 + k - 4 = i * 4 + k by omega, ih]
    rfl
theorem row_pcs {w : World} {B n c : Nat} {T : TypeId} {a : Option Addr} {l : List PieceM} (h : w.ownsRow B T 4 (.slice a n c) l.length (cellsPc l)) {i : Nat} (hi : i < l.length) : ∃ g, a = some ⟨g, 0, none⟩ ∧ w.cell? ⟨g, i * 4, none⟩ = some (.int .i64 (l.getD i .zero).num) ∧ w.cell? ⟨g, i * 4 + 1, none⟩ = some (.int .i64 (l.getD i .zero).frm) ∧ w.cell? ⟨g, i * 4 + 2, none⟩ = some (.bool (l.getD i .zero).last) ∧ w.cell? ⟨g, i * 4 + 3, none⟩ = some (.string (l.getD i .zero).data) := by
  rcases h.2 with ⟨h', h0⟩ | ⟨g, cap, cur, h', _, hg, _, _, _, ht⟩
  · omega
  · simp only [Value.slice.injEq] at h'
    obtain ⟨rfl, _, _⟩ := h'
    have hat : ∀ k, k < 4 → w.cell? ⟨g, i * 4 + k, none⟩ = (l.getD i .zero).cells[k]? := fun k hk => by
      have : cur[i * 4 + k]? = (cellsPc l)[i * 4 + k]? := by
        rw [← ht, List.getElem?_take_of_lt (by omega)]
        simp
      rw [cell_of_row _ _ _ _ _ _ hg, this, cellsPc_at l i k hi hk]
    exact ⟨g, rfl, hat 0 (by omega), hat 1 (by omega), hat 2 (by omega), hat 3 (by omega)⟩
theorem Try.infoTx : (Try.prog.info? 9).map (fun i => (i.zero, i.size, i.bytes)) = some (some (.string { data := #[] }), 1, 16) := by kernel_rfl
theorem Try.infoPc : (Try.prog.info? 64).map (fun i => (i.zero, i.size, i.bytes)) = some (some (.agg #[.int .i64 0, .int .i64 0, .bool false, .string { data := #[] }]), 4, 40) := by kernel_rfl
end Go.Proofs.Ytbjgfoiikhbonaf
namespace Go.Proofs.Ytbjgfoiikhbonaf
open Go.ChangeShapes Go.WideShapes Go.ChangeAt Go.RowKit
def TakenM.cells (t : TakenM) : List Value := [.int .i64 (t.u : Int), .int .i64 t.p.num, .int .i64 t.p.frm, .bool t.p.last, .string t.p.data]
def cellsTn (l : List TakenM) : List Value := l.flatMap TakenM.cells
theorem cellsTk_snoc (l : List TakenM) (x : TakenM) : cellsTn (l ++ [x]) = cellsTn l ++ x.cells := by simp [cellsTn]
theorem cellsTn_at : ∀ (l : List TakenM) (i k : Nat), i < l.length → k < 5 → (cellsTn l)[i * 5 + k]? = (l.getD i .zero).cells[k]?
  | [], i, _, h, _ => by simp at h
  | x :: l, 0, k, _, hk => by
    have e : cellsTn (x :: l) = x.cells ++ cellsTn l := rfl
    rw [e, List.getElem?_append_left (by show 0 * 5 + k < 5; omega)]
    simp
  | x :: l, i + 1, k, h, hk => by
    have e : cellsTn (x :: l) = x.cells ++ cellsTn l := rfl
    have ih := cellsTn_at l i k (by simpa using h) hk
    have h5 : x.cells.length = 5 := rfl
    rw [e, List.getElem?_append_right (by rw [h5]; omega), h5, show (i + 1) * 5 + k - 5 = i * 5 + k by omega, ih]
    rfl
def TakenM.ok (t : TakenM) : Prop := 0 ≤ t.p.frm ∧ t.p.frm + t.p.data.size ≤ 1500 ∧ t.u ≤ manyU + 64
/-- The reference's receiver at a block g. -/
structure RIn (w : World) (B g : Nat) (vl : Value) (win fst : Nat) (ts : List TakenM) : Prop where
  box : w.heap[g]? = some (.cells #[.int .i64 (win : Int), .int .i64 (fst : Int), vl] 57 (0, 0))
  own : w.ownsRow B 126 5 vl ts.length (cellsTn ts)
  ne : vl.ownBlock ≠ some g
  le : B ≤ g
  ok : ∀ t ∈ ts, t.ok
theorem RIn.lt {w : World} {B g : Nat} {vl : Value} {win fst : Nat} {ts : List TakenM} (h : RIn w B g vl win fst ts) : g < w.heap.size := (Array.getElem?_eq_some_iff.1 h.box).1
theorem RIn.kept {w w' : World} {S : List Nat} {B g : Nat} {vl : Value} {win fst : Nat} {ts : List TakenM} (h : RIn w B g vl win fst ts) (hk : Kept S w w') (hg : g ∉ S) (hv : ∀ x, vl.ownBlock = some x → x ∉ S) : RIn w' B g vl win fst ts :=
  ⟨(hk.block g h.lt hg).trans h.box, keptRow h.own hk hv, h.ne, h.le, h.ok⟩
theorem RIn.below {w w' : World} {B g : Nat} {vl : Value} {win fst : Nat} {ts : List TakenM} (h : RIn w B g vl win fst ts) (hb : Below w.heap.size w w') : RIn w' B g vl win fst ts := h.kept (Kept.of_below (S := []) hb) (by simp) (by simp)
theorem RIn.cells {w : World} {B g : Nat} {vl : Value} {win fst : Nat} {ts : List TakenM} (h : RIn w B g vl win fst ts) : w.cell? ⟨g, 0, none⟩ = some (.int .i64 (win : Int)) ∧ w.cell? ⟨g, 1, none⟩ = some (.int .i64 (fst : Int)) ∧ w.cell? ⟨g, 2, none⟩ = some vl := by
  refine ⟨?_, ?_, ?_⟩ <;> rw [cell_of_row _ _ _ _ _ _ h.box] <;> rfl
theorem row_tks {w : World} {B n c : Nat} {T : TypeId} {a : Option Addr} {l : List TakenM} (h : w.ownsRow B T 5 (.slice a n c) l.length (cellsTn l)) {i : Nat} (hi : i < l.length) : ∃ g, a = some ⟨g, 0, none⟩ ∧ g < w.heap.size ∧ w.cell? ⟨g, i * 5, none⟩ = some (.int .i64 ((l.getD i .zero).u : Int)) ∧ w.cell? ⟨g, i * 5 + 1, none⟩ = some (.int .i64 (l.getD i .zero).p.num) ∧ w.cell? ⟨g, i * 5 + 2, none⟩ = some (.int .i64 (l.getD i .zero).p.frm) ∧ w.cell? ⟨g, i * 5 + 3, none⟩ = some (.bool (l.getD i .zero).p.last) ∧ w.cell? ⟨g, i * 5 + 4, none⟩ = some (.string (l.getD i .zero).p.data) := by
  rcases h.2 with ⟨h', h0⟩ | ⟨g, cap, cur, h', _, hg, _, _, _, ht⟩
  · omega
  · simp only [Value.slice.injEq] at h'
    obtain ⟨rfl, _, _⟩ := h'
    have hat : ∀ k, k < 5 → w.cell? ⟨g, i * 5 + k, none⟩ = (l.getD i .zero).cells[k]? := fun k hk => by
      have : cur[i * 5 + k]? = (cellsTn l)[i * 5 + k]? := by
        rw [← ht, List.getElem?_take_of_lt (by omega)]
        simp
      rw [cell_of_row _ _ _ _ _ _ hg, this, cellsTn_at l i k hi hk]
    exact ⟨g, rfl, (Array.getElem?_eq_some_iff.1 hg).1, hat 0 (by omega), hat 1 (by omega), hat 2 (by omega), hat 3 (by omega), hat 4 (by omega)⟩
def lenI (d : Option Nat) : Int := match d with
  | none => -1
  | some n => (n : Int)
theorem finL_le {u : Nat} (ts : List TakenM) : ∀ d, d ≤ 1500 → (∀ t ∈ ts, t.ok) → finL u d ts ≤ 1500 := by
  induction ts with
  | nil => intro d hd _; exact hd
  | cons t ts ih =>
    intro d hd h
    refine ih _ ?_ fun s hs => h s (List.mem_cons_of_mem _ hs)
    have h1 := h t List.mem_cons_self
    have : t.p.b ≤ 1500 := by unfold PieceM.b; have := h1.1; have := h1.2.1; omega
    split <;> omega
theorem getD_mem {l : List TakenM} {i : Nat} (h : i < l.length) : l.getD i .zero ∈ l := by
  have e : l.getD i .zero = l[i] := by simp [List.getD, h]
  rw [e]
  exact List.getElem_mem h
theorem TakenM.ok.b {t : TakenM} (h : t.ok) : (t.p.b : Int) = t.p.frm + (t.p.data.size : Int) := by
  unfold PieceM.b
  have := h.1
  omega
set_option maxRecDepth 100000 in
set_option maxHeartbeats 4000000 in
theorem rlength_any {w : World} {B g : Nat} {vl : Value} {win fst : Nat} {ts : List TakenM} (u : Nat) (h : RIn w B g vl win fst ts) (hl : ts.length ≤ manyU) (hu : u ≤ manyU + 64) :
    Calls Try.prog 45 #[.pointer (some ⟨g, 0, none⟩), .int .i64 (u : Int)] w fun e w' => e = .returned (.tuple #[.int .i64 (lenI (lenL u none ts)), .int .i64 ((finL u 0 ts : Nat) : Int)]) ∧ Below w.heap.size w w' := by
  obtain ⟨a, c, ev, -, -, -⟩ := row_shape h.own
  subst ev
  have H := hid h
  obtain ⟨nt, ent⟩ : ∃ nt, nt = ts.length := ⟨_, rfl⟩
  have hnt : nt ≤ 70368744177664 := by rw [ent]; exact hl
  have HNT := hid ent
  have hu2 : u ≤ 70368744177664 + 64 := hu
  have hlt := h.lt
  obtain ⟨-, -, c2⟩ := h.cells
  rw [← ent] at c2
  clear h hl ent hu
  go_enter Try.func45, Try.ntmps45
  go_wp2_with fail
  go_loopw [4, 5, 6] (fun vn ve vi wr => ∃ k : Nat, k ≤ nt ∧ vi = .int .i64 k ∧ vn = .int .i64 (lenI (lenL u none (ts.take k))) ∧ ve = .int .i64 ((finL u 0 (ts.take k) : Nat) : Int) ∧ Below w.heap.size w wr) (fun _ _ vi _ => nt - (intOf vi).toNat)
  case atStart => exact ⟨0, by omega, rfl, rfl, rfl, Below.refl _ w⟩
  case round =>
    obtain ⟨k, hk, rfl, rfl, rfl, hb⟩ := hrel
    have k2 := (World.cell?_of_block (hb.block g hlt)).trans c2
    by_cases hkn : k < nt
    · have hkl : k < ts.length := by rw [← HNT.out]; exact hkn
      obtain ⟨gl, rfl, hgl, q0, q1, q2, q3, q4⟩ := row_tks H.out.own hkl
      have p0 := (World.cell?_of_block (hb.block gl hgl)).trans q0
      have p1 := (World.cell?_of_block (hb.block gl hgl)).trans q1
      have p2 := (World.cell?_of_block (hb.block gl hgl)).trans q2
      have p3 := (World.cell?_of_block (hb.block gl hgl)).trans q3
      have p4 := (World.cell?_of_block (hb.block gl hgl)).trans q4
      clear q0 q1 q2 q3 q4
      have hok := H.out.ok _ (getD_mem hkl)
      have e1 := lenL_snoc u (ts.getD k .zero) (ts.take k) none
      have e2 := finL_snoc u (ts.getD k .zero) (ts.take k) 0
      rw [← takeTn hkl] at e1 e2
      have hfl := finL_le (u := u) (ts.take k) 0 (by omega) (fun t ht => H.out.ok t (List.mem_of_mem_take ht))
      have hbk := hok.b
      obtain ⟨ok1, ok2, ok3⟩ := hok
      unfold manyU at ok3
      generalize ts.getD k TakenM.zero = t at *
      have HE1 := hid e1
      have HE2 := hid e2
      generalize hN : lenL u none (ts.take k) = N at *
      generalize hE : finL u 0 (ts.take k) = E at *
      clear hN hE e1 e2
      obtain ⟨tu, ⟨num, frm, la, dat⟩⟩ := t
      dsimp only at p0 p1 p2 p3 p4 ok1 ok2 ok3
      have hbk : ((PieceM.b ⟨num, frm, la, dat⟩ : Nat) : Int) = frm + (dat.size : Int) := hbk
      generalize hbe : PieceM.b ⟨num, frm, la, dat⟩ = bb at *
      have HE1 : Hid (lenL u none (ts.take (k + 1)) = if tu = u ∧ la = true then some bb else N) := HE1
      have HE2 : Hid (finL u 0 (ts.take (k + 1)) = if tu = u then max E bb else E) := HE2
      clear hbe
      have HBK := hid hbk
      cases la
      all_goals
        have hbA : ∀ l : Bool, Below wr.heap.size wr (wr.alloc (.cells #[.int .i64 num, .int .i64 frm, .bool l, .string dat] 64)) := fun l => (Below.refl _ wr).alloc (Nat.le_refl _) _
        have hz := fun l => piece_new wr ⟨num, frm, l, dat⟩
        have k3 := fun l => ((hbA l).cell (World.block_lt_of_cell? wr _ k2)).trans k2
        have r0 := fun l => ((hbA l).cell (World.block_lt_of_cell? wr _ p0)).trans p0
        have HB2 := hid (fun l => hb.trans ((hbA l).mono hb.size))
        clear hbA hgl
      · replace k3 := k3 false
        replace r0 := r0 false
        obtain ⟨z0, z1, z2, z3⟩ := hz false
        dsimp only at z0 z1 z2 z3
        clear hz
        by_cases hx : tu = u
        · have x1 : ((tu : Int) != (u : Int)) = false := by rw [hx]; simp
          by_cases hE : E < bb
          · have x2 : decide ((E : Int) < frm + (dat.size : Int)) = true := decide_eq_true (by omega)
            clear hbk
            go_wp2_with fail
            refine ⟨⟨k + 1, by omega, by go_num, ?_, ?_, HB2.out _⟩, by simp [intOf]; omega⟩
            · rw [HE1.out, if_neg (by simp)]
            · rw [HE2.out, if_pos hx, Nat.max_eq_right (by omega), HBK.out]
          · have x2 : decide ((E : Int) < frm + (dat.size : Int)) = false := decide_eq_false (by omega)
            clear hbk
            go_wp2_with fail
            refine ⟨⟨k + 1, by omega, by go_num, ?_, ?_, HB2.out _⟩, by simp [intOf]; omega⟩
            · rw [HE1.out, if_neg (by simp)]
            · rw [HE2.out, if_pos hx, Nat.max_eq_left (by omega)]
        · have x1 : ((tu : Int) != (u : Int)) = true := by rw [bne_iff_ne]; omega
          clear hbk
          go_wp2_with fail
          refine ⟨⟨k + 1, by omega, by go_num, ?_, ?_, HB2.out _⟩, by simp [intOf]; omega⟩
          · rw [HE1.out, if_neg (fun e => hx e.1)]
          · rw [HE2.out, if_neg hx]
      · replace k3 := k3 true
        replace r0 := r0 true
        obtain ⟨z0, z1, z2, z3⟩ := hz true
        dsimp only at z0 z1 z2 z3
        clear hz
        by_cases hx : tu = u
        · have x1 : ((tu : Int) != (u : Int)) = false := by rw [hx]; simp
          by_cases hE : E < bb
          · have x2 : decide ((E : Int) < frm + (dat.size : Int)) = true := decide_eq_true (by omega)
            clear hbk
            go_wp2_with fail
            refine ⟨⟨k + 1, by omega, by go_num, ?_, ?_, HB2.out _⟩, by simp [intOf]; omega⟩
            · rw [HE1.out, if_pos ⟨hx, rfl⟩]; exact congrArg (Value.int .i64) HBK.out.symm
            · rw [HE2.out, if_pos hx, Nat.max_eq_right (by omega), HBK.out]
          · have x2 : decide ((E : Int) < frm + (dat.size : Int)) = false := decide_eq_false (by omega)
            clear hbk
            go_wp2_with fail
            refine ⟨⟨k + 1, by omega, by go_num, ?_, ?_, HB2.out _⟩, by simp [intOf]; omega⟩
            · rw [HE1.out, if_pos ⟨hx, rfl⟩]; exact congrArg (Value.int .i64) HBK.out.symm
            · rw [HE2.out, if_pos hx, Nat.max_eq_left (by omega)]
        · have x1 : ((tu : Int) != (u : Int)) = true := by rw [bne_iff_ne]; omega
          clear hbk
          go_wp2_with fail
          refine ⟨⟨k + 1, by omega, by go_num, ?_, ?_, HB2.out _⟩, by simp [intOf]; omega⟩
          · rw [HE1.out, if_neg (fun e => hx e.1)]
          · rw [HE2.out, if_neg hx]
    · go_wp2_with fail
      go_ret2
      have ek : ts.take k = ts := List.take_of_length_le (by rw [← HNT.out]; omega)
      rw [ek]
      exact ⟨rfl, hb⟩
end Go.Proofs.Ytbjgfoiikhbonaf
