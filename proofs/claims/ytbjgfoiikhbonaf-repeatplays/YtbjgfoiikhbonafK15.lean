import Derived.Test.YtbjgfoiikhbonafK14
set_option linter.unusedVariables false
set_option linter.unusedSimpArgs false
namespace Go.Proofs.Ytbjgfoiikhbonaf
open Go.ChangeShapes Go.WideShapes Go.ChangeAt Go.RowKit
abbrev Sis := List (Int × Int)
def cellsSi (l : Sis) : List Value := l.flatMap fun q => [.int .i64 q.1, .int .i64 q.2]
theorem cellsSi_app (l r : Sis) : cellsSi (l ++ r) = cellsSi l ++ cellsSi r := by simp [cellsSi]
theorem cellsSi_at (l : Sis) : ∀ i, i < l.length → (cellsSi l)[i * 2]? = some (.int .i64 (l.getD i (0, 0)).1) ∧ (cellsSi l)[i * 2 + 1]? = some (.int .i64 (l.getD i (0, 0)).2) := by
  induction l with
  | nil => intro i h; simp at h
  | cons q l ih =>
    intro i h
    have e : cellsSi (q :: l) = .int .i64 q.1 :: .int .i64 q.2 :: cellsSi l := rfl
    cases i with
    | zero => exact ⟨rfl, rfl⟩
    | succ i =>
      have h' : i < l.length := by simpa using h
      have := ih i h'
      rw [e, show (i + 1) * 2 = i * 2 + 1 + 1 by omega, List.getElem?_cons_succ, List.getElem?_cons_succ, List.getElem?_cons_succ]
      exact this
/-- New spans, whose ends may be below 0. -/
def OwnSi (w : World) (B : Nat) (v : Value) (l : Sis) : Prop := w.ownsRow B 114 2 v l.length (cellsSi l)
def intsS (l : Sps) : Sis := l.map fun q => ((q.1 : Int), (q.2 : Int))
theorem intsS_len (l : Sps) : (intsS l).length = l.length := by simp [intsS]
theorem OwnSi.nil (w : World) (B : Nat) : OwnSi w B (.slice none 0 0) [] := World.ownsRow_nil _ _ _ _
theorem OwnSi.at {w : World} {B : Nat} {a : Option Addr} {c n : Nat} {l : Sis} (h : OwnSi w B (.slice a n c) l) {i : Nat} (hi : i < l.length) : ∃ g, a = some ⟨g, 0, none⟩ ∧ g < w.heap.size ∧ ∀ k, k < l.length → w.cell? ⟨g, k * 2, none⟩ = some (.int .i64 (l.getD k (0, 0)).1) ∧ w.cell? ⟨g, k * 2 + 1, none⟩ = some (.int .i64 (l.getD k (0, 0)).2) := by
  have hn := row_len h
  subst hn
  rcases h.2 with ⟨_, h0⟩ | ⟨g, cap, cur, h', _⟩
  · omega
  · simp only [Value.slice.injEq] at h'
    obtain ⟨rfl, -, rfl⟩ := h'
    obtain ⟨cur, hA, -, -, -, -, hct, hxl⟩ := row_at h
    refine ⟨g, rfl, hA.lt, fun k hk => ?_⟩
    have h2 := cellsSi_at l k hk
    rw [hA.cell, hA.cell, ← h2.1, ← h2.2, ← hct, List.getElem?_take_of_lt (by omega), List.getElem?_take_of_lt (by omega)]
    exact ⟨rfl, rfl⟩
theorem OwnSi.weaken {w : World} {B B' : Nat} {v : Value} {l : Sis} (h : OwnSi w B v l) (hB : B' ≤ B) : OwnSi w B' v l := by
  refine ⟨h.1, ?_⟩
  rcases h.2 with h' | ⟨g, cap, cur, h1, h2, h3⟩
  · exact .inl h'
  · exact .inr ⟨g, cap, cur, h1, Nat.le_trans hB h2, h3⟩
theorem wpList_pushSp {ops : Array Oper} {rest : List Oper} {o : Oper} {a : Act} {Q : Exit → Act → World → Prop} {w0 : World} {v : Value} {L : Sis} (B : Nat) (w00 : World) (p q : Int) (hown : OwnSi w0 B v L) (hgd : o.guard = none) (s x : Operand)
    (ho : o.op = .call { callee := .builtin .append, args := #[s, x], argTypes := #[105, 105] }) (hs : a.eval s = v)
    (gx : Nat) (hgx : gx = w0.heap.size) (hx : a.eval x = .slice (some ⟨gx, 0, none⟩) 1 1) (hlen : L.length ≤ 100000) (hbel : Below B w00 w0) (hB : B ≤ w0.heap.size)
    (h : ∀ v' w', OwnSi w' B v' (L ++ [(p, q)]) → Below B w00 w' → (w0.alloc (.cells #[.int .i64 p, .int .i64 q] 114)).grownBy w' v.ownBlock → wpList Try.prog ops Q rest (a.put o.dst v') w') : wpList Try.prog ops Q (o :: rest) a (w0.alloc (.cells #[.int .i64 p, .int .i64 q] 114)) := by
  subst hgx
  obtain ⟨i0, hi, hz0, hz1, hz2⟩ := info_parts Try.infoSp
  have hq := heap_alloc_new w0 (.cells #[.int .i64 p, .int .i64 q] 114)
  refine wpList_append_own _ hgd s x 105 ho B 114 i0 _ 2 16 Try.underlying105 hi hz0 hz1 hz2 rfl (by decide) v _ _ hs (World.ownsRow.alloc hown _) ⟨w0.heap.size, 0, none⟩ 1 1 [.int .i64 p, .int .i64 q] hx rfl ?_ one_int2 ?_ ?_ ?_ ?_
  · intro j u hu
    rw [Addr.add_lit, Nat.zero_add, cell_of_row _ _ _ _ _ _ hq]
    simpa using hu
  · unfold maxLen; omega
  · omega
  · simp; omega
  · intro v' w' h1 h2 _
    refine h v' w' ?_ ((hbel.alloc hB _).grown h2 (by simp; omega) (fun k hk => (hown.lt k hk).1)) h2
    unfold OwnSi
    rw [cellsSi_app, List.length_append]
    exact h1
def GapsPost (w : World) (l : Sps) (lo hi : Nat) : Ending → World → Prop := fun e w' => ∃ v', e = .returned v' ∧ OwnSi w' w.heap.size v' (intsS (gapsM hi lo l)) ∧ Below w.heap.size w w'
set_option maxHeartbeats 1000000 in
set_option maxRecDepth 100000 in
theorem spGaps_any {w : World} {a : Option Addr} {n c : Nat} {l : Sps} {lo hi : Nat} (h : OwnSp w (.slice a n c) l) (hs : Srt l) (hE : EndLe l 3000) (hlo : lo ≤ 3000) (_hhi : hi ≤ 3000) :
    Calls Try.prog 61 #[.slice a n c, .agg #[.int .i64 (lo : Int), .int .i64 (hi : Int)]] w (GapsPost w l lo hi) := by
  have hl := row_len h
  have hlen := hs.few hE
  obtain ⟨N, hN⟩ : ∃ N, N = l.length := ⟨_, rfl⟩
  rw [hl, ← hN]
  have HN := hid hN
  have hN3 : N ≤ 3000 := by omega
  have hcell : ∀ k, k < N → ∃ g, a = some ⟨g, 0, none⟩ ∧ g < w.heap.size ∧ w.cell? ⟨g, k * 2, none⟩ = some (.int .i64 ((l.getD k (0, 0)).1 : Int)) ∧ w.cell? ⟨g, k * 2 + 1, none⟩ = some (.int .i64 ((l.getD k (0, 0)).2 : Int)) := fun k hk => by
    obtain ⟨g, e, h1, h2⟩ := h.at (i := k) (by omega)
    exact ⟨g, e, h1, h2 k (by omega)⟩
  have HC := hid hcell
  clear h hcell hl hN
  go_enter Try.func61, Try.ntmps61
  go_wp2_with fail
  go_loopw [5, 6, 14] (fun vf vl vi wr => ∃ k f nf cf : Nat, ∃ af : Option Addr, ∃ L : Sps, k ≤ N ∧ f ≤ 3000 ∧ vf = .slice af nf cf ∧ vi = .int .i64 k ∧ vl = .int .i64 (f : Int) ∧ gapsM hi lo l = L ++ gapsM hi f (l.drop k) ∧ L.length ≤ k ∧ OwnSi wr (w.heap.size + 1) (.slice af nf cf) (intsS L) ∧ Below (w.heap.size + 1) (w.alloc (.cells #[.int .i64 (lo : Int), .int .i64 (hi : Int)] 114)) wr) (fun _ _ vi _ => N - (intOf vi).toNat)
  case atStart => exact ⟨0, lo, 0, 0, none, [], by omega, hlo, rfl, rfl, rfl, rfl, Nat.le_refl _, OwnSi.nil _ _, Below.refl _ _⟩
  case round =>
    obtain ⟨k, f, nf, cf, af, L, hk, hf, rfl, rfl, rfl, hg, hLk, ho, hb⟩ := hrel
    have hx := at_alloc w 114 [.int .i64 (lo : Int), .int .i64 (hi : Int)]
    have x1 : wr.cell? ⟨w.heap.size, 1, none⟩ = some (.int .i64 (hi : Int)) := (World.cell?_of_block (hb.block w.heap.size (by omega))).trans (hx.cell 1)
    have hb0 : Below w.heap.size w wr := ((Below.refl _ w).alloc (Nat.le_refl _) _).trans (hb.mono (by omega))
    have hsz : w.heap.size + 1 ≤ wr.heap.size := by have := hb.size; simpa using this
    by_cases hkn : k < N
    · obtain ⟨g, rfl, hgl, q0, q1⟩ := HC.out k hkn
      have r0 := (World.cell?_of_block (hb0.block g hgl)).trans q0
      have r1 := (World.cell?_of_block (hb0.block g hgl)).trans q1
      have hdrop : l.drop k = l.getD k (0, 0) :: l.drop (k + 1) := by
        have h1 : k < l.length := by rw [← HN.out]; exact hkn
        rw [List.drop_eq_getElem_cons h1, List.getD_eq_getElem?_getD, List.getElem?_eq_getElem h1]
        rfl
      have hq2 : (l.getD k (0, 0)).2 ≤ 3000 := hE _ (getD_memS (by rw [← HN.out]; exact hkn))
      have hq1 := hs.getPos (j := k) (by rw [← HN.out]; exact hkn)
      have hgm : gapsM hi f (l.drop k) = (if f < min hi (l.getD k (0, 0)).1 then [(f, min hi (l.getD k (0, 0)).1)] else []) ++ gapsM hi (max f (l.getD k (0, 0)).2) (l.drop (k + 1)) := by
        rw [hdrop]
        rfl
      rw [hgm] at hg
      have HG := hid hg
      have HO := hid ho
      have HB := hid hb
      clear hg hgm hdrop ho hb hx q0 q1 hb0
      generalize (l.getD k (0, 0)).1 = Q1 at *
      generalize (l.getD k (0, 0)).2 = Q2 at *
      have m1 : (if Q1 < hi then (Q1 : Int) else (hi : Int)) = ((min hi Q1 : Nat) : Int) := by split <;> omega
      have m2 : (if f < Q2 then (Q2 : Int) else (f : Int)) = ((max f Q2 : Nat) : Int) := by split <;> omega
      have m1' : (if (Q1 : Int) < (hi : Int) then (Q1 : Int) else (hi : Int)) = ((min hi Q1 : Nat) : Int) := by split <;> omega
      have m2' : (if (f : Int) < (Q2 : Int) then (Q2 : Int) else (f : Int)) = ((max f Q2 : Nat) : Int) := by split <;> omega
      have hmx : max f Q2 ≤ 3000 := by omega
      have hbY : Below (w.heap.size + 1) (w.alloc (.cells #[.int .i64 (lo : Int), .int .i64 (hi : Int)] 114)) (wr.alloc (.cells #[.int .i64 (Q1 : Int), .int .i64 (Q2 : Int)] 114)) := HB.out.alloc hsz _
      have hyA := at_alloc wr 114 [.int .i64 (Q1 : Int), .int .i64 (Q2 : Int)]
      have y0 : (wr.alloc (.cells #[.int .i64 (Q1 : Int), .int .i64 (Q2 : Int)] 114)).cell? ⟨wr.heap.size, 0, none⟩ = some (.int .i64 (Q1 : Int)) := hyA.cell 0
      have y1 : (wr.alloc (.cells #[.int .i64 (Q1 : Int), .int .i64 (Q2 : Int)] 114)).cell? ⟨wr.heap.size, 1, none⟩ = some (.int .i64 (Q2 : Int)) := hyA.cell 1
      have x1' : (wr.alloc (.cells #[.int .i64 (Q1 : Int), .int .i64 (Q2 : Int)] 114)).cell? ⟨w.heap.size, 1, none⟩ = some (.int .i64 (hi : Int)) := (World.cell?_of_block (Below.heap_alloc wr _ w.heap.size (by omega))).trans x1
      have hF : ∀ (p q : Int) (w2 : World), ((wr.alloc (.cells #[.int .i64 (Q1 : Int), .int .i64 (Q2 : Int)] 114)).alloc (.cells #[.int .i64 p, .int .i64 q] 114)).grownBy w2 (Value.slice af nf cf).ownBlock → w2.cell? ⟨wr.heap.size, 1, none⟩ = some (.int .i64 (Q2 : Int)) := fun p q w2 hg2 => by
        have h1 : (Value.slice af nf cf).ownBlock ≠ some wr.heap.size := fun e => by
          have := (HO.out.lt _ e).2
          omega
        refine (World.cell?_of_block (hg2.block wr.heap.size (by simp; omega) (fun e => h1 e.symm))).trans ?_
        exact (World.cell?_of_block (Below.heap_alloc _ _ wr.heap.size (by simp))).trans y1
      have HBY := hid hbY
      have hoY : OwnSi (wr.alloc (.cells #[.int .i64 (Q1 : Int), .int .i64 (Q2 : Int)] 114)) (w.heap.size + 1) (.slice af nf cf) (intsS L) := World.ownsRow.alloc HO.out _
      have HOY := hid hoY
      have hszY : w.heap.size + 1 ≤ (wr.alloc (.cells #[.int .i64 (Q1 : Int), .int .i64 (Q2 : Int)] 114)).heap.size := by simp; omega
      clear hbY hyA hoY
      by_cases hlt : f < min hi Q1
      · have d1 : decide ((f : Int) < ((min hi Q1 : Nat) : Int)) = true := decide_eq_true (by omega)
        have HG2 : Hid (gapsM hi lo l = (L ++ [(f, min hi Q1)]) ++ gapsM hi Q2 (l.drop (k + 1))) := by
          have := HG.out
          rw [if_pos hlt, show max f Q2 = Q2 by omega] at this
          rw [List.append_assoc]
          exact this
        have hLl : (intsS L).length ≤ 100000 := by rw [intsS_len]; omega
        clear HG
        generalize min hi Q1 = M1 at *
        have hd2 : f < Q2 := by omega
        clear m2 m2'
        go_wp2_with (at_builtin; refine wpList_pushSp (w.heap.size + 1) _ (f : Int) (M1 : Int) HOY.out rfl _ _ rfl rfl (wr.heap.size + 1) (by simp) rfl hLl HBY.out hszY ?_; intro v2 w2 ho2 hb2 hg2; obtain ⟨a2, c2, rfl, -, -, -⟩ := row_shape ho2; have HO2 := hid ho2; have HB2 := hid hb2; have y2 := hF _ _ _ hg2; clear ho2 hb2 hg2)
        refine ⟨⟨k + 1, Q2, _, c2, a2, L ++ [(f, M1)], by omega, hq2, rfl, by go_num, rfl, HG2.out, by simp; omega, ?_, HB2.out⟩, by simp [intOf]; omega⟩
        have e : intsS (L ++ [(f, M1)]) = intsS L ++ [((f : Int), (M1 : Int))] := by simp [intsS]
        rw [e]
        have h5 := HO2.out
        rw [List.length_append] at h5
        exact h5
      · have d1 : decide ((f : Int) < ((min hi Q1 : Nat) : Int)) = false := decide_eq_false (by omega)
        have HG2 : Hid (gapsM hi lo l = L ++ gapsM hi (max f Q2) (l.drop (k + 1))) := by
          have := HG.out
          rw [if_neg hlt] at this
          exact this
        clear HG
        have HM2 := hid m2
        generalize min hi Q1 = M1 at *
        clear m2 m2'
        go_wp2_with fail
        refine ⟨⟨k + 1, max f Q2, nf, cf, af, L, by omega, hmx, rfl, by go_num, by rw [← HM2.out], HG2.out, by omega, HOY.out, HBY.out⟩, by simp [intOf]; omega⟩
    · have hkN : k = N := by omega
      have hdn : l.drop k = [] := List.drop_eq_nil_of_le (by rw [← HN.out]; omega)
      rw [hdn] at hg
      have HO := hid ho
      have HB := hid hb
      have HG := hid hg
      have hB2 : ∀ w2, Below (w.heap.size + 1) (w.alloc (.cells #[.int .i64 (lo : Int), .int .i64 (hi : Int)] 114)) w2 → Below w.heap.size w w2 := fun w2 h2 => ((Below.refl _ w).alloc (Nat.le_refl _) _).trans (h2.mono (by omega))
      have HB0 := hid hB2
      have hLl : (intsS L).length ≤ 100000 := by rw [intsS_len]; omega
      clear hg ho hb hdn hx hb0 hB2
      by_cases hlt : f < hi
      · have d1 : decide ((f : Int) < (hi : Int)) = true := decide_eq_true (by omega)
        go_wp2_with (at_builtin; refine wpList_pushSp (w.heap.size + 1) _ (f : Int) (hi : Int) HO.out rfl _ _ rfl rfl wr.heap.size rfl rfl hLl HB.out hsz ?_; intro v2 w2 ho2 hb2 hg2; obtain ⟨a2, c2, rfl, -, -, -⟩ := row_shape ho2; have HO2 := hid ho2; have HB2 := hid hb2; clear ho2 hb2 hg2)
        go_ret
        refine ⟨_, rfl, ?_, HB0.out _ HB2.out⟩
        have e1 : gapsM hi lo l = L ++ [(f, hi)] := by
          rw [HG.out]
          unfold gapsM
          rw [if_pos hlt]
        have e : intsS (L ++ [(f, hi)]) = intsS L ++ [((f : Int), (hi : Int))] := by simp [intsS]
        rw [e1, e]
        have h5 := HO2.out
        rw [List.length_append] at h5
        exact h5.weaken (Nat.le_succ _)
      · have d1 : decide ((f : Int) < (hi : Int)) = false := decide_eq_false (by omega)
        go_wp2_with fail
        go_ret
        refine ⟨_, rfl, ?_, HB0.out _ HB.out⟩
        have e1 : gapsM hi lo l = L := by
          rw [HG.out]
          unfold gapsM
          rw [if_neg hlt, List.append_nil]
        rw [e1]
        exact HO.out.weaken (by omega)
end Go.Proofs.Ytbjgfoiikhbonaf
namespace Go.Proofs.Ytbjgfoiikhbonaf
open Go.ChangeShapes Go.WideShapes Go.ChangeAt Go.RowKit
structure UnP where
  text : ByteArray
  sent : Nat
  av : Value
  al : Sps
  dn : Bool
def UnP.zero : UnP := ⟨ByteArray.empty, 0, .slice none 0 0, [], false⟩
def UnP.cells (x : UnP) : List Value := [.string x.text, .int .i64 (x.sent : Int), x.av, .bool x.dn]
/-- A unit's cells, from o on. -/
structure UnAt (w : World) (g o : Nat) (x : UnP) : Prop where
  c0 : w.cell? ⟨g, o, none⟩ = some (.string x.text)
  c1 : w.cell? ⟨g, o + 1, none⟩ = some (.int .i64 (x.sent : Int))
  c2 : w.cell? ⟨g, o + 2, none⟩ = some x.av
  c3 : w.cell? ⟨g, o + 3, none⟩ = some (.bool x.dn)
  fr : ∀ j, w.frozen? ⟨g, j, none⟩ = false
  ag : OwnSp w x.av x.al
  sep : ∀ g', x.av.ownBlock = some g' → g' ≠ g
theorem UnAt.kept {w w' : World} {g o : Nat} {x : UnP} {S : List Nat} (h : UnAt w g o x) (hk : Kept S w w') (hg : g ∉ S) (hs : ∀ g', x.av.ownBlock = some g' → g' ∉ S) : UnAt w' g o x :=
  ⟨keptCellQ hk h.c0 hg, keptCellQ hk h.c1 hg, keptCellQ hk h.c2 hg, keptCellQ hk h.c3 hg, fun j => keptFree hk (h.fr j) (World.block_lt_of_cell? w ⟨g, o, none⟩ h.c0) hg, h.ag.kept hk hs, h.sep⟩
def LosePost (w : World) (g o : Nat) (x : UnP) (a z : Nat) : Ending → World → Prop := fun e w' => e = .returned (.tuple #[]) ∧ ∃ v' l', PtrPost w w' g (o + 2) x.av.ownBlock.toList v' ∧ OwnSp w' v' l' ∧ Srt l' ∧ (∀ i, inS l' i ↔ inS x.al i ∨ (x.dn = false ∧ a ≤ i ∧ i < min z x.sent)) ∧ (∀ g', v'.ownBlock = some g' → x.av.ownBlock = some g' ∨ w.heap.size ≤ g')
set_option maxHeartbeats 1000000 in
set_option maxRecDepth 100000 in
theorem lose_any {w : World} {g o : Nat} {x : UnP} {a z : Nat} (h : UnAt w g o x) (hs : Srt x.al) (hE : EndLe x.al 3000) (hsent : x.sent ≤ 3000) (_ha : a ≤ 3000) (hz : z ≤ 3000) :
    Calls Try.prog 49 #[.pointer (some ⟨g, o, none⟩), .agg #[.int .i64 (a : Int), .int .i64 (z : Int)]] w (LosePost w g o x a z) := by
  obtain ⟨c0, c1, c2, c3, fr, ag, sep⟩ := h
  have hgl : g < w.heap.size := World.block_lt_of_cell? w _ c1
  obtain ⟨m, em⟩ : ∃ m, m = min z x.sent := ⟨_, rfl⟩
  have hm1 : (if x.sent < z then (x.sent : Int) else (z : Int)) = (m : Int) := by rw [em]; split <;> omega
  have hm2 : (if (x.sent : Int) < (z : Int) then (x.sent : Int) else (z : Int)) = (m : Int) := by rw [em]; split <;> omega
  have hm3 : m ≤ 3000 := by omega
  have hgN : ¬ (g = w.heap.size) := by omega
  have EM := hid em
  obtain ⟨ad, c, eav, -, -, -⟩ := ag.shape
  have AG := hid ag
  have EAV := hid eav
  have SEP := hid sep
  have C2 := hid c2
  have FR := hid fr
  have hnr : Kept [] w ((w.alloc (.cells #[.int .i64 (a : Int), .int .i64 (m : Int)] 114)).drew) := (((Kept.refl _ w).alloc _).drew)
  clear em ag eav sep c2 c0 fr
  obtain ⟨text, sent, av, al, dn⟩ := x
  dsimp only at *
  go_enter Try.func49, Try.ntmps49
  go_upto_region 1 with fail
  go_region
  go_upto_region 2 with fail
  have hXA : At ((w.alloc (.cells #[.int .i64 (a : Int), .int .i64 (m : Int)] 114)).drew) w.heap.size 114 [.int .i64 (a : Int), .int .i64 (m : Int)] := at_alloc w _ _
  generalize (w.alloc (.cells #[.int .i64 (a : Int), .int .i64 (m : Int)] 114)).drew = W at *
  have k1 := keptCellQ hnr c1 (by simp)
  have k2 := keptCellQ hnr C2.out (by simp)
  have k3 := keptCellQ hnr c3 (by simp)
  have x0 : W.cell? ⟨w.heap.size, 0, none⟩ = some (.int .i64 (a : Int)) := hXA.cell 0
  have x1 : W.cell? ⟨w.heap.size, 1, none⟩ = some (.int .i64 (m : Int)) := hXA.cell 1
  have hgS : g ∉ av.ownBlock.toList := fun hm => SEP.out g (by simpa using hm) rfl
  have HNR := hid hnr
  have K2 := hid k2
  clear hXA hnr c1 c3 k2 hm1 hm2
  cases dn with
  | true =>
    go_wp2_with fail
    go_end0
    exact ⟨rfl, av, al, PtrPost.same (HNR.out.wider (by simp)) hgS C2.out, AG.out.kept HNR.out (by simp), hs, fun i => ⟨.inl, fun h => h.elim id fun h => by simp at h⟩, fun g' hg' => .inl hg'⟩
  | false =>
    by_cases hlt : a < m
    · have d1 : decide ((a : Int) < (m : Int)) = true := decide_eq_true (by omega)
      have hfr : W.frozen? ⟨g, o + 2, none⟩ = false := keptFree HNR.out (FR.out _) hgl (by simp)
      have hadd := spAdd_any (w := W.drew) (b := g) (o := o + 2) (v := av) (l := al) (a := a) (z := m) K2.out hfr (AG.out.kept (HNR.out.drew) (by simp)) SEP.out hs hE hlt hm3
      go_upto_region 3 with fail
      go_region_with (go_at_call 62; refine hadd.mono ?_; rintro e' w1 ⟨rfl, v', l', q1, q2, q3, q4, q5⟩)
      go_end0
      refine ⟨rfl, v', l', ⟨?_, fun T cur hA => q1.row T cur (At.kept (w' := W.drew) hA HNR.out.drew (by simp))⟩, q2, q3, fun i => ?_, fun g' hg' => ?_⟩
      · exact ((HNR.out.drew).wider (by simp)).trans q1.kept
      · rw [q4 i, EM.out]
        simp
      · rcases q5 g' hg' with h' | h'
        · exact .inl h'
        · exact .inr (Nat.le_trans HNR.out.size h')
    · have d1 : decide ((a : Int) < (m : Int)) = false := decide_eq_false (by omega)
      go_wp2_with fail
      go_end0
      refine ⟨rfl, av, al, PtrPost.same (HNR.out.wider (by simp)) hgS C2.out, AG.out.kept HNR.out (by simp), hs, fun i => ⟨.inl, fun h => h.elim id fun h => ?_⟩, fun g' hg' => .inl hg'⟩
      have := EM.out
      dsimp only at h
      omega
set_option maxHeartbeats 400000 in
theorem finish_any {w : World} {g o : Nat} {x : UnP} (h : UnAt w g o x) :
    Calls Try.prog 50 #[.pointer (some ⟨g, o, none⟩)] w fun e w' => e = .returned (.tuple #[]) ∧ w' = (w.setCell ⟨g, o + 3, none⟩ (.bool true)).setCell ⟨g, o + 2, none⟩ (.slice none 0 0) := by
  obtain ⟨c0, c1, c2, c3, fr, ag, sep⟩ := h
  obtain ⟨ad, c, eav, -, -, -⟩ := ag.shape
  rw [eav] at c2
  have f2 := fr (o + 2)
  have f3 := fr (o + 3)
  clear c0 c1 fr ag sep eav
  go_enter Try.func50, Try.ntmps50
  go_wp2_with fail
  go_end0
  exact ⟨rfl, rfl⟩
set_option maxHeartbeats 1000000 in
theorem open_any {w : World} {g o : Nat} {x : UnP} (h : UnAt w g o x) (hs : x.text.size ≤ 3000) (hsent : x.sent ≤ 3000) :
    Calls Try.prog 38 #[.pointer (some ⟨g, o, none⟩)] w fun e w' => e = .returned (.bool (!x.dn && decide (x.sent < x.text.size))) ∧ ∃ n, w' = w.drewN n := by
  obtain ⟨c0, c1, c2, c3, fr, ag, sep⟩ := h
  clear c2 fr ag sep
  obtain ⟨text, sent, av, al, dn⟩ := x
  dsimp only at *
  cases dn with
  | true =>
    go_enter Try.func38, Try.ntmps38
    go_wp2_with fail
    go_quiet (fail)
    go_wp2_with fail
    go_ret
    exact ⟨rfl, _, rfl⟩
  | false =>
    by_cases hlt : sent < text.size
    · have d1 : decide ((sent : Int) < (text.size : Int)) = true := decide_eq_true (by omega)
      have hd := hid (show (!false && decide (sent < text.size)) = true by simp [hlt])
      go_enter Try.func38, Try.ntmps38
      go_wp2_with fail
      go_quiet (fail)
      go_wp2_with fail
      go_ret
      exact ⟨by rw [hd.out]; rfl, _, rfl⟩
    · have d1 : decide ((sent : Int) < (text.size : Int)) = false := decide_eq_false (by omega)
      have hd := hid (show (!false && decide (sent < text.size)) = false by simp [hlt])
      go_enter Try.func38, Try.ntmps38
      go_wp2_with fail
      go_quiet (fail)
      go_wp2_with fail
      go_ret
      exact ⟨by rw [hd.out]; rfl, _, rfl⟩
end Go.Proofs.Ytbjgfoiikhbonaf
