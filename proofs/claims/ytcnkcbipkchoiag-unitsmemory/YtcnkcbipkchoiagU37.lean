import Derived.Test.YtcnkcbipkchoiagU36
import Derived.Test.YtcnkcbipkchoiagU31
import Derived.Test.YtcnkcbipkchoiagU29
import Derived.Test.YtcnkcbipkchoiagU04
import Derived.Test.YtcnkcbipkchoiagU27
import Derived.OwnWalk
import Derived.Deep.CutRange
import Derived.Deep.MidRow
namespace Go.Proofs.Ytcnkcbipkchoiag
open Go.ChangeShapes Go.WideShapes Go.ChangeAt Go.RowKit
theorem waitN_le_drop (us : List UnP) (k : Nat) : waitN (us.drop k) ≤ waitN us := by
  unfold waitN
  exact (List.Sublist.filter _ (List.drop_sublist k us)).length_le
theorem waitN_mono {us us' : List UnP} (hl : us'.length = us.length) (h : ∀ i, i < us.length → (us.getD i .zero).dn = true → (us'.getD i .zero).dn = true) : waitN us' ≤ waitN us := by
  rw [waitN_range, waitN_range, hl]
  have key : ∀ k, k ≤ us.length → ((List.range k).filter fun i => !(us'.getD i .zero).dn).length ≤ ((List.range k).filter fun i => !(us.getD i .zero).dn).length := by
    intro k
    induction k with
    | zero => intro _; simp
    | succ k ih =>
      intro hk
      have := ih (by omega)
      rw [List.range_succ, List.filter_append, List.filter_append, List.length_append, List.length_append]
      have h1 := h k (by omega)
      have : ([k].filter fun i => !(us'.getD i .zero).dn).length ≤ ([k].filter fun i => !(us.getD i .zero).dn).length := by
        simp only [List.filter_cons, List.filter_nil]
        cases h2 : (us.getD k .zero).dn with
        | true => rw [h1 h2]; simp
        | false => cases (us'.getD k .zero).dn <;> simp
      omega
  exact key _ (Nat.le_refl _)
theorem SndM.taken {m : OutM} {us us' : List UnP} {d : Nat} {gs : List GapM} (h : SndM m us) (hd : d ≤ lead sentP us) (ht : TakeRel d (lkOf (m.beg % 64) gs) (gapP (m.beg % 64) gs) us us') : SndM (m.taken d gs) (us'.drop (lead (·.dn) us')) ∧ (m.taken d gs).beg = m.beg + lead (·.dn) us' := by
  have hn := h.n_eq
  have hll := lead_le (·.dn) us'
  have hlen := ht.1
  have hdl : d ≤ us.length := Nat.le_trans hd (lead_le _ _)
  have hu : ∀ i, i < us.length → UnR (m.taken d gs) (m.beg + i) (us'.getD i .zero) := fun i hi => (h.un i hi).taken (ht.2 i hi)
  have hbeg : (m.taken d gs).beg = m.beg + lead (·.dn) us' := by
    show firstIn (fun u => !m.done2 d gs u) m.beg m.n = _
    refine firstIn_eq (by omega) (by omega) (fun j h1 h2 => ?_) (fun hlt => ?_)
    · have h3 := lead_in (p := (·.dn)) (us := us') (k := j - m.beg) (by omega)
      have h4 := (hu (j - m.beg) (by omega)).dn
      rw [h3, show m.beg + (j - m.beg) = j by omega] at h4
      have h5 : m.done2 d gs j = true := h4.symm
      rw [h5]
      rfl
    · have h3 := lead_at (p := (·.dn)) (us := us') (by omega)
      have h4 := (hu (lead (·.dn) us') (by omega)).dn
      rw [h3] at h4
      have h5 : m.done2 d gs (m.beg + lead (·.dn) us') = false := h4.symm
      rw [h5]
      rfl
  have hnn : (m.taken d gs).n = m.n := rfl
  refine ⟨⟨h.w1, h.w2, by rw [hbeg, hnn]; omega, by rw [List.length_drop, hbeg, hnn]; omega, fun i hi => ?_, fun u hu' => ?_, fun u hu' => ?_, fun i hi hs => ?_, fun i hi hd' => ?_, ?_⟩, hbeg⟩
  · rw [List.length_drop] at hi
    rw [getD_dropU, hbeg, Nat.add_assoc]
    exact hu _ (by omega)
  · rw [hbeg] at hu'
    show m.done2 d gs u = true
    by_cases e : u < m.beg
    · unfold OutM.done2
      rw [h.old u e]
      rfl
    · have h3 := lead_in (p := (·.dn)) (us := us') (k := u - m.beg) (by omega)
      have h4 := (hu (u - m.beg) (by omega)).dn
      rw [h3, show m.beg + (u - m.beg) = u by omega] at h4
      exact h4.symm
  · have hu'' : m.n ≤ u := hu'
    have hf := h.fresh u hu''
    refine ⟨?_, fun t => ?_⟩
    · show m.done2 d gs u = false
      unfold OutM.done2
      rw [hf.1, decide_eq_false (by omega)]
      rfl
    · show m.mark2 d gs u t = 0
      unfold OutM.mark2
      rw [if_neg (by omega), if_neg (by omega), hf.2 t]
      rw [if_neg (by omega)]
  · rw [List.length_drop] at hi
    rw [getD_dropU, (ht.2 _ (by omega)).2.1] at hs
    obtain ⟨q1, q2⟩ := h.pre _ (by omega) hs
    refine ⟨by show i < m.win; omega, fun j hj => ?_⟩
    rw [getD_dropU, (ht.2 _ (by omega)).2.1]
    exact q2 _ (by omega)
  · rw [List.length_drop] at hi
    rw [getD_dropU] at hd' ⊢
    have hr := ht.2 (lead (·.dn) us' + i) (by omega)
    rw [hr.2.1]
    rw [hr.2.2.1] at hd'
    cases hx : (us.getD (lead (·.dn) us' + i) .zero).dn with
    | true => exact h.dsn _ (by omega) hx
    | false =>
      rw [hx, Bool.false_or, Bool.and_eq_true, decide_eq_true_eq] at hd'
      have := lead_in (p := sentP) (us := us) (k := lead (·.dn) us' + i) (by omega)
      exact of_decide_eq_true this
  · have h1 := waitN_le_drop us' (lead (·.dn) us')
    have h2 := waitN_mono hlen (fun i hi hx => by rw [(ht.2 i hi).2.2.1, hx]; rfl)
    have := h.few
    omega
theorem SndM.lead32 {m : OutM} {us : List UnP} (h : SndM m us) : lead sentP us ≤ 32 := by
  rcases Nat.eq_zero_or_pos (lead sentP us) with e | e
  · omega
  · have hl := lead_le sentP us
    have h1 := lead_in (p := sentP) (us := us) (k := lead sentP us - 1) (by omega)
    have := (h.pre _ (by omega) (of_decide_eq_true h1)).1
    have := h.w2
    omega
theorem snd_take {w : World} {p : Addr} {F : List Nat} {m : OutM} (r : ReportM) (a : Option Addr) (n c : Nat) (h : Snd w p F m) (hG : Gps w a r.miss) (hNI : NotIn F a) (hn : r.miss.length = n) (hm : n ≤ maxLen) : Calls Try.prog 43 #[.pointer (some p), .agg #[.int .i64 r.next, .slice a n c]] w fun e w' => e = .returned (.int .i64 (m.take r).err) ∧ Kept F w w' ∧ ∃ F', Snd w' p F' (m.take r).m ∧ Grown w.heap.size F F' := by
  obtain ⟨b, ua, cc, us, rfl, rfl, h1, h2⟩ := h
  have hsh := h2.short
  obtain ⟨r1, r2, r3⟩ := h2.repErr r
  rw [r1]
  by_cases he : repErr (m.beg % 64) us r = 0
  · rw [r3 he]
    have hlead : aheadN r.next m.beg ≤ lead sentP us := by
      unfold repErr at he
      rw [aheadN_mod] at he
      split at he
      · simp at he
      · split at he
        · simp at he
        · omega
    have h32 : aheadN r.next (m.beg % 64) ≤ 32 := by rw [aheadN_mod]; have := h2.lead32; omega
    refine (stake_good r a n c h1 (Nat.mod_lt _ (by omega)) (by omega) h2.usOk hG hNI hn hm he h32).mono ?_
    rintro e w' ⟨rfl, hk, us', ht, hN, hp⟩
    rw [aheadN_mod] at ht
    obtain ⟨q1, q2⟩ := h2.taken hlead ht
    refine ⟨by rw [he], hk, _, ⟨b, ua, cc, _, rfl, rfl, ?_, q1⟩, fun x hx => ?_⟩
    · rw [q2]
      rw [mod_add64] at hp
      exact hp
    · have hx' : x ∈ sndF b ua us' := by
        rcases sndF_mem hx with rfl | ⟨y, hy, rfl⟩ | ⟨j, hj, e⟩
        · exact sndF_b _ _ _
        · exact sndF_u hy
        · rw [getD_dropU] at e
          rw [List.length_drop] at hj
          exact sndF_a (by omega) e
      exact sndF_new hN ht.1 hx'
  · rw [r2 he]
    refine (stake_bad r a n c h1 (Nat.mod_lt _ (by omega)) (by omega) h2.usOk hG hn hm he).mono ?_
    rintro e w' ⟨rfl, hb⟩
    exact ⟨rfl, Kept.of_below hb, sndF b ua us, ⟨b, ua, cc, us, rfl, rfl, h1.kept (Kept.of_below (S := []) hb) (by simp), h2⟩, fun x hx => .inl hx⟩
end Go.Proofs.Ytcnkcbipkchoiag
namespace Go.Proofs.Ytcnkcbipkchoiag
open Go.ChangeShapes Go.WideShapes Go.ChangeAt Go.RowKit
structure Um (w0 w : World) (ps pt : Addr) (FS FR : List Nat) (m : OutM) (r : InM) : Prop where
  s : Snd w ps FS m
  r : Rcv w pt FR r
  ap : ∀ x ∈ FS, x ∉ FR
  ls : ∀ x ∈ FS, w0.heap.size ≤ x
  lr : ∀ x ∈ FR, w0.heap.size ≤ x
  bel : Below w0.heap.size w0 w
theorem Um.snd {w0 w w' : World} {ps pt : Addr} {FS FS' FR : List Nat} {m m' : OutM} {r : InM} (h : Um w0 w ps pt FS FR m r) (hk : Kept FS w w') (hs : Snd w' ps FS' m') (hg : Grown w.heap.size FS FS') : Um w0 w' ps pt FS' FR m' r :=
  ⟨hs, rcv_kept h.r hk (fun x hx hm => h.ap x hm hx), fun x hx hm => (hg x hx).elim (fun e => h.ap x e hm) (fun e => by have := rcv_lt h.r x hm; omega), fun x hx => (hg x hx).elim (h.ls x) (fun e => by have := h.bel.size; omega), h.lr, h.bel.trans (hk.below h.bel.size h.ls)⟩
theorem Um.rcv {w0 w w' : World} {ps pt : Addr} {FS FR FR' : List Nat} {m : OutM} {r r' : InM} (h : Um w0 w ps pt FS FR m r) (hk : Kept FR w w') (hs : Rcv w' pt FR' r') (hg : Grown w.heap.size FR FR') : Um w0 w' ps pt FS FR' m r' :=
  ⟨snd_kept h.s hk h.ap, hs, fun x hx hm => (hg x hm).elim (fun e => h.ap x hx e) (fun e => by have := snd_lt h.s x hx; omega), h.ls, fun x hx => (hg x hx).elim (h.lr x) (fun e => by have := h.bel.size; omega), h.bel.trans (hk.below h.bel.size h.lr)⟩
theorem Um.kept {w0 w w' : World} {ps pt : Addr} {FS FR S : List Nat} {m : OutM} {r : InM} (h : Um w0 w ps pt FS FR m r) (hk : Kept S w w') (h1 : ∀ x ∈ S, w0.heap.size ≤ x) (h2 : ∀ x ∈ S, x ∉ FS ∧ x ∉ FR) : Um w0 w' ps pt FS FR m r :=
  ⟨snd_kept h.s hk (fun x hx hm => (h2 x hm).1 hx), rcv_kept h.r hk (fun x hx hm => (h2 x hm).2 hx), h.ap, h.ls, h.lr, h.bel.trans (hk.below h.bel.size h1)⟩
theorem Um.below {w0 w w' : World} {ps pt : Addr} {FS FR : List Nat} {m : OutM} {r : InM} (h : Um w0 w ps pt FS FR m r) (hb : Below w.heap.size w w') : Um w0 w' ps pt FS FR m r := h.kept (S := []) (Kept.of_below hb) (by simp) (by simp)
theorem Um.fresh {w0 w : World} {ps pt : Addr} {FS FR : List Nat} {m : OutM} {r : InM} (h : Um w0 w ps pt FS FR m r) {x : Nat} (hx : w.heap.size ≤ x) : x ∉ FS ∧ x ∉ FR :=
  ⟨fun e => by have := snd_lt h.s x e; omega, fun e => by have := rcv_lt h.r x e; omega⟩
/-- What one writes into a list that came out changes neither. -/
theorem Um.own {w0 w w1 w2 : World} {ps pt : Addr} {FS FR : List Nat} {m : OutM} {r : InM} {a : Option Addr} {n c d : Nat} {T : TypeId} {xs : List Value} (h : Um w0 w1 ps pt FS FR m r) (hw : w0.heap.size ≤ w.heap.size) (ho : w1.ownsRow w.heap.size T d (.slice a n c) n xs) (hS : ∀ x ∈ FS, x < w.heap.size) (hR : NotIn FR a) (hk : Kept (Value.slice a n c).ownBlock.toList w1 w2) : Um w0 w2 ps pt FS FR m r := by
  have hb : ∀ x ∈ (Value.slice a n c).ownBlock.toList, w.heap.size ≤ x := fun x hx => (World.ownsRow.lt ho x (by simpa using hx)).1
  refine h.kept hk (fun x hx => Nat.le_trans hw (hb x hx)) (fun x hx => ⟨fun e => ?_, fun e => ?_⟩)
  · have h1 := hb x hx
    have h2 := hS x e
    omega
  · cases a with
    | none => simp [Value.ownBlock] at hx
    | some y =>
      simp [Value.ownBlock] at hx
      subst hx
      exact hR y rfl e
theorem Um.new {w0 w1 w2 : World} {ps pt : Addr} {FS FR : List Nat} {m : OutM} {r : InM} (hs : Snd w1 ps FS m) (hF : ∀ x ∈ FS, w0.heap.size ≤ x) (hb1 : Below w0.heap.size w0 w1) (hr : Rcv w2 pt FR r) (hG : ∀ x ∈ FR, w1.heap.size ≤ x) (hb2 : Below w1.heap.size w1 w2) : Um w0 w2 ps pt FS FR m r :=
  ⟨snd_kept hs (Kept.of_below (S := []) hb2) (by simp), hr, fun x hx hm => by have := snd_lt hs x hx; have := hG x hm; omega, hF, fun x hx => by have := hG x hx; have := hb1.size; omega, hb1.trans (hb2.mono hb1.size)⟩
theorem next_bytes (m : OutM) : (m.next 5).p.data.size ≤ manyB := by
  have h0 : ∀ k u, (m.send k u 5).p.data.size ≤ manyB := fun k u => by
    show ((m.t u).extract (m.hit k u) (m.cut k u 5)).size ≤ manyB
    rw [ByteArray.size_extract]
    have h1 : m.cut k u 5 ≤ m.hit k u + 5 := by
      unfold OutM.cut firstIn
      have h2 := firstN_le (fun i => m.mark u i != k) (min (m.sz u) (m.hit k u + 5) - m.hit k u) (m.hit k u)
      omega
    unfold manyB
    omega
  have h9 : PieceM.zero.data.size ≤ manyB := by unfold manyB; decide
  unfold OutM.next
  split
  · exact h9
  split
  · exact h0 _ _
  split
  · exact h0 _ _
  · exact h9
theorem takeO_split {w w' : World} {p : Addr} {F : List Nat} {r : InM} {x : PieceM} {e : Ending} (h : TakeOutO w p F r x e w') : ∃ a n c F', e = .returned (.tuple #[.slice a n c, .int .i64 (r.take x).err]) ∧ n ≤ 32 ∧ w'.ownsRow w.heap.size 9 1 (.slice a n c) n ((r.take x).out.map Value.string) ∧ Kept F w w' ∧ Rcv w' p F' (r.take x).m ∧ Grown w.heap.size F F' ∧ NotIn F' a := by
  obtain ⟨a, n, c, rfl, hn, ho, a', n', c', e, -, -, -, hk, F', hr, hg, hi⟩ := h
  simp only [Ending.returned.injEq, Value.tuple.injEq, Array.mk.injEq, List.cons.injEq, Value.slice.injEq, and_true] at e
  obtain ⟨rfl, rfl, rfl⟩ := e
  exact ⟨a, n, c, F', rfl, hn, ho, hk, hr, hg, hi⟩
/-- No gap that is reported has the number -7. -/
theorem miss_num (r : InM) : ∀ i, i < r.report.miss.length → (r.report.miss.getD i .zero).num ≠ -7 := by
  intro i hi
  have hm : r.report.miss.getD i .zero ∈ r.report.miss := by
    rw [List.getD_eq_getElem?_getD, List.getElem?_eq_getElem hi]
    exact List.getElem_mem hi
  generalize r.report.miss.getD i .zero = g at hm
  unfold InM.report at hm
  obtain ⟨j, -, hj⟩ := List.mem_flatMap.1 hm
  unfold InM.gaps at hj
  rcases List.mem_append.1 hj with h | h
  · obtain ⟨q, -, rfl⟩ := List.mem_map.1 h
    show (((r.fst + j) % 64 : Nat) : Int) ≠ -7
    omega
  · split at h
    · obtain rfl : g = _ := by simpa using h
      show (((r.fst + j) % 64 : Nat) : Int) ≠ -7
      omega
    · cases h
end Go.Proofs.Ytcnkcbipkchoiag
namespace Go.Proofs.Ytcnkcbipkchoiag
open Go.ChangeShapes Go.WideShapes Go.ChangeAt Go.RowKit
theorem keptNoneD {S : List Nat} {w w' : World} (h : w.grownBy w' none) : Kept S w w' := ⟨h.os, h.tape, h.output, h.size, fun k hk _ => h.block k hk (by simp)⟩
theorem kept_grownD {w w' : World} {g : Nat} (h : w.grownBy w' (some g)) : Kept [g] w w' := ⟨h.os, h.tape, h.output, h.size, fun k hk hn => h.block k hk (fun e => hn (by simpa using e))⟩
theorem Kept.cellD {S : List Nat} {a b : World} (h : Kept S a b) {p : Addr} {v : Value} (hc : a.cell? p = some v) (hn : p.block ∉ S) : b.cell? p = some v := (World.cell?_of_block (h.block p.block (World.block_lt_of_cell? a _ hc) hn)).trans hc
theorem cell_grownD {w w' : World} {row : Option Nat} {p : Addr} {v : Value} (h : w.cell? p = some v) (hg : w.grownBy w' row) (hr : ∀ g, row = some g → p.block ≠ g) : w'.cell? p = some v := by
  have hb := hg.block p.block (World.block_lt_of_cell? w _ h) (fun e => hr _ e.symm rfl)
  rw [← h]
  exact World.cell?_of_block (w := w) hb
theorem own_blockD {w : World} {B d : Nat} {e : TypeId} {v : Value} {n : Nat} {xs : List Value} (h : w.ownsRow B e d v n xs) : v = .slice none 0 0 ∨ ∃ g cap cur, v = .slice (some ⟨g, 0, none⟩) n cap ∧ B ≤ g ∧ w.heap[g]? = some (.cells cur e (0, 0)) ∧ n ≤ cap ∧ cap ≤ maxLen ∧ cur.size = cap * d := by
  rcases h.2 with ⟨e1, _⟩ | ⟨g, cap, cur, h1, h2, h3, h4, h5, h6, _⟩
  · exact .inl e1
  · exact .inr ⟨g, cap, cur, h1, h2, h3, h4, h5, h6⟩
theorem own_of_blockD {w : World} {B d : Nat} {e : TypeId} {g n cap : Nat} {cur : Array Value} (hB : B ≤ g) (h : w.heap[g]? = some (.cells cur e (0, 0))) (hn : n ≤ cap) (hm : cap ≤ maxLen) (hs : cur.size = cap * d) : w.ownsRow B e d (.slice (some ⟨g, 0, none⟩) n cap) n (cur.toList.take (n * d)) :=
  ⟨by rw [List.length_take, Array.length_toList, hs]; exact Nat.min_eq_left (Nat.mul_le_mul_right d hn), .inr ⟨g, cap, cur, rfl, hB, h, hn, hm, hs, rfl⟩⟩
theorem there_blockD {w : World} {d : Nat} {e : TypeId} {g i cap : Nat} {cur : Array Value} (h : w.heap[g]? = some (.cells cur e (0, 0))) (hs : cur.size = cap * d) (hi : i < cap) : w.there g (i * d) d := fun j hj => by
  refine ⟨?_, frozen_of_row w g _ _ _ h⟩
  have hle : (i + 1) * d ≤ cap * d := Nat.mul_le_mul_right d hi
  rw [Nat.add_mul, Nat.one_mul] at hle
  have hlt : i * d + j < cur.size := by rw [hs]; omega
  rw [cell_of_row _ _ _ _ _ _ h, Array.getElem?_eq_getElem hlt]
  rfl
theorem set_cellsD {e : TypeId} {g : Nat} : ∀ (us : List Value) (o : Nat) (w : World) (cur : Array Value), w.heap[g]? = some (.cells cur e (0, 0)) → ∃ cur' : Array Value, (w.setCells g o us).heap[g]? = some (.cells cur' e (0, 0)) ∧ cur'.size = cur.size
  | [], _, _, cur, h => ⟨cur, h, rfl⟩
  | u :: us, o, w, cur, h => by
    obtain ⟨c, h1, h2⟩ := set_cellsD us (o + 1) (w.setCell ⟨g, o, none⟩ u) _ (heap_setCell_same w g o _ _ u h)
    exact ⟨c, h1, h2.trans (by simp)⟩
theorem Kept.setCellsD {S : List Nat} {g : Nat} (hg : g ∈ S) : ∀ (us : List Value) (o : Nat) {a w : World}, Kept S a w → Kept S a (w.setCells g o us)
  | [], _, _, _, h => h
  | u :: us, o, _, _, h => Kept.setCellsD hg us (o + 1) (h.setCell (p := ⟨g, o, none⟩) hg u)
theorem marks_newD (L : List Value) (T : TypeId) (w : World) : ∀ (j : Nat) (u : Value), L[j]? = some u → (w.alloc (.cells L.toArray T)).cell? ((⟨w.heap.size, 0, none⟩ : Addr).add j) = some u := fun j u hu => by
  rw [Addr.add_lit, cell_of_row _ _ _ _ _ _ (heap_alloc_new w _), Nat.zero_add]
  simpa using hu
end Go.Proofs.Ytcnkcbipkchoiag
