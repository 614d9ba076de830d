import Derived.Test.YtbmdjfolfmgmmagK24
namespace Go.Proofs.Ytbmdjfolfmgmmag
open Go.ChangeShapes Go.WideShapes Go.ChangeAt Go.RowKit
theorem takeErr_zero {m : GcM} {p : PktM} (h : takeErr m p = 0) : formOk p = true ∧ cntIn m.fst p.short = true ∧ p.sl = sealG (m.cnt p) (m.opened p) ∧ cntErr m (m.cnt p) = 0 := by
  unfold takeErr at h
  split at h
  · rename_i h1
    split at h
    · rename_i h2
      split at h
      · rename_i h3
        exact ⟨h1, h2, h3, h⟩
      · cases h
    · cases h
  · cases h
theorem cntErr_zero {m : GcM} {c : Nat} (h : cntErr m c = 0) : m.fst ≤ c ∧ m.M c = none := by
  unfold cntErr at h
  split at h
  · cases h
  · split at h
    · cases h
    · rename_i q1 q2
      exact ⟨by omega, by simpa using q2⟩
/-- How a packet is refused. -/
theorem takeErr_cases {m : GcM} {p : PktM} (h : takeErr m p ≠ 0) : (formOk p = false ∧ takeErr m p = 3) ∨ (formOk p = true ∧ cntIn m.fst p.short = false ∧ takeErr m p = 3) ∨ (formOk p = true ∧ cntIn m.fst p.short = true ∧ ¬ p.sl = sealG (m.cnt p) (m.opened p) ∧ takeErr m p = 4) ∨ (formOk p = true ∧ cntIn m.fst p.short = true ∧ p.sl = sealG (m.cnt p) (m.opened p) ∧ cntErr m (m.cnt p) = takeErr m p ∧ cntErr m (m.cnt p) ≠ 0) := by
  unfold takeErr at h ⊢
  by_cases h1 : formOk p = true
  · by_cases h2 : cntIn m.fst p.short = true
    · by_cases h3 : p.sl = sealG (m.cnt p) (m.opened p)
      · rw [if_pos h1, if_pos h2, if_pos h3] at h ⊢
        exact .inr (.inr (.inr ⟨h1, h2, h3, rfl, h⟩))
      · rw [if_pos h1, if_pos h2, if_neg h3]
        exact .inr (.inr (.inl ⟨h1, h2, h3, rfl⟩))
    · rw [if_pos h1, if_neg h2]
      exact .inr (.inl ⟨h1, by simpa using h2, rfl⟩)
  · rw [if_neg h1]
    exact .inl ⟨by simpa using h1, rfl⟩
theorem Gp.take1_bad {w wr : World} {G : GpS} {s1 s2 : SdM} {r1 r2 : GcM} {K : Nat} {vo : Value} {out : List PktM} {X : List (Cmp × List Nat)} (h : Gp w wr G s1 r1 s2 r2 K vo out X) (p : PktM) (hz1 : p.sl.size ≤ 140737488355328) (hz2 : p.data.size ≤ 140737488355328) (he : takeErr r1 p ≠ 0) :
    Calls Try.prog 14 #[.pointer (some ⟨G.gr, 0, none⟩), p.val] wr fun e w' => e = .returned (.tuple #[.slice none 0 0, .int .i64 (takeErr r1 p)]) ∧ Gp w w' G s1 r1 s2 r2 K vo out X := by
  have h0 := h
  obtain ⟨Fs, Fr, Fa, Fb, Fo, h⟩ := h
  obtain ⟨-, hr⟩ := h.each (rcvC G.gr G.bm r1, Fr) (by simp)
  have hfin : Calls Try.prog 14 #[.pointer (some ⟨G.gr, 0, none⟩), p.val] wr (RefPost wr (takeErr r1 p)) := by
    rcases takeErr_cases he with ⟨a, b⟩ | ⟨a, b, c⟩ | ⟨a, b, c, d⟩ | ⟨a, b, c, d, e⟩
    · rw [b]; exact gtake_form p hz1 hz2 a
    · rw [c]; exact gtake_count hr p a b
    · rw [d]; exact gtake_seal hr p a b c
    · exact gtake_old hr p a b c (takeErr r1 p) d (by rw [← d]; exact e)
  refine hfin.mono ?_
  rintro e w' ⟨rfl, hb⟩
  exact ⟨rfl, h0.below hb⟩
theorem Gp.take2_bad {w wr : World} {G : GpS} {s1 s2 : SdM} {r1 r2 : GcM} {K : Nat} {vo : Value} {out : List PktM} {X : List (Cmp × List Nat)} (h : Gp w wr G s1 r1 s2 r2 K vo out X) (p : PktM) (hz1 : p.sl.size ≤ 140737488355328) (hz2 : p.data.size ≤ 140737488355328) (he : takeErr r2 p ≠ 0) (hK : K ≤ 1000000000) :
    Calls Try.prog 15 #[.pointer (some ⟨G.gb, 0, none⟩), p.val] wr fun e w' => e = .returned (.tuple #[.slice none 0 0, .int .i64 (takeErr r2 p)]) ∧ Gp w w' G s1 r1 s2 r2 K vo out X := by
  have h0 := h
  obtain ⟨Fs, Fr, Fa, Fb, Fo, h⟩ := h
  obtain ⟨vc, vd, cs, dd, -, hr, hl⟩ := h.each (gtC G.gb r2 K, Fb) (by simp)
  have hfin : Calls Try.prog 15 #[.pointer (some ⟨G.gb, 0, none⟩), p.val] wr (RefPost wr (takeErr r2 p)) := by
    rcases takeErr_cases he with ⟨a, b⟩ | ⟨a, b, c⟩ | ⟨a, b, c, d⟩ | ⟨a, b, c, d, e⟩
    · rw [b]; exact rgtake_form p hz1 hz2 a
    · rw [c]; exact rgtake_count hr p a b
    · rw [d]; exact rgtake_seal hr p a b c
    · rw [← d]
      by_cases q1 : r2.cnt p < r2.fst
      · rw [show cntErr r2 (r2.cnt p) = 8 by unfold cntErr; rw [if_pos q1]]
        exact rgtake_old hr p a b c q1
      · cases hM : r2.M (r2.cnt p) with
        | none => exact absurd (show cntErr r2 (r2.cnt p) = 0 by unfold cntErr; rw [if_neg q1, hM]; rfl) e
        | some x =>
          rw [show cntErr r2 (r2.cnt p) = 10 by unfold cntErr; rw [if_neg q1, hM]; rfl]
          exact rgtake_there hr p a b c (by omega) (by rw [hM]; rfl) (by omega)
  refine hfin.mono ?_
  rintro e w' ⟨rfl, hb⟩
  exact ⟨rfl, h0.below hb⟩
theorem Gp.take1_ok {w wr : World} {G : GpS} {s1 s2 : SdM} {r1 r2 : GcM} {K : Nat} {vo : Value} {out : List PktM} {X : List (Cmp × List Nat)} (h : Gp w wr G s1 r1 s2 r2 K vo out X) (p : PktM) (he : takeErr r1 p = 0) {n : Nat} (hn : RunG (r1.put p).M r1.fst n) :
    Calls Try.prog 14 #[.pointer (some ⟨G.gr, 0, none⟩), p.val] wr fun e w' => ∃ a c, e = .returned (.tuple #[.slice a n c, .int .i64 0]) ∧ Gp w w' G s1 ((r1.put p).cut n) s2 r2 K vo out (X ++ [(txsC (.slice a n c) (toldG (r1.put p).M r1.fst n), ownB (.slice a n c))]) := by
  obtain ⟨Fs, Fr, Fa, Fb, Fo, h⟩ := h
  obtain ⟨rfl, hr⟩ := h.each (rcvC G.gr G.bm r1, Fr) (by simp)
  obtain ⟨q1, q2, q3, q4⟩ := takeErr_zero he
  refine (gtake_ok hr p q1 q2 q3 q4 hn).mono ?_
  rintro e w' ⟨v, rfl, ho, hK, hP⟩
  have ho' : w'.ownsRow wr.heap.size 9 1 v n ((toldG (r1.put p).M r1.fst n).map Value.string) := ho
  obtain ⟨a, c, rfl, -, -, -⟩ := row_shape ho'
  have h1 := Sep.step [(sndC G.gs s1, Fs)] h hK (c' := rcvC G.gr G.bm ((r1.put p).cut n)) (F' := gcF G.gr G.bm) ⟨rfl, hP⟩ (grown_refl _ _)
  refine ⟨a, c, rfl, _, _, _, _, _, h1.add (n := wr.heap.size) h.bel.size (fun d hd x hx => ?_) _ _ ⟨rfl, by rw [toldG_length]; exact row_zero ho'⟩ (fun x hx => (row_new ho' x hx).1)⟩
  have hall := h.lts
  rcases List.mem_append.1 hd with hd | hd
  · exact hall d (List.mem_append_left _ hd) x hx
  · rcases List.mem_cons.1 hd with rfl | hd
    · exact hr.lt x hx
    · exact hall d (List.mem_cons_of_mem _ (List.mem_cons_of_mem _ hd)) x hx
theorem Gp.take2_ok {w wr : World} {G : GpS} {s1 s2 : SdM} {r1 r2 : GcM} {K : Nat} {vo : Value} {out : List PktM} {X : List (Cmp × List Nat)} (h : Gp w wr G s1 r1 s2 r2 K vo out X) (p : PktM) (he : takeErr r2 p = 0) (hK9 : K < 1000000000) {n : Nat} (hn : RunG (r2.put p).M r2.fst n) :
    Calls Try.prog 15 #[.pointer (some ⟨G.gb, 0, none⟩), p.val] wr fun e w' => ∃ a c, e = .returned (.tuple #[.slice a n c, .int .i64 0]) ∧ Txs w' a (toldG (r2.put p).M r2.fst n) ∧ Gp w w' G s1 r1 s2 ((r2.put p).cut n) (K + 1) vo out X := by
  obtain ⟨Fs, Fr, Fa, Fb, Fo, h⟩ := h
  obtain ⟨vc, vd, cs, dd, rfl, hr, hl⟩ := h.each (gtC G.gb r2 K, Fb) (by simp)
  obtain ⟨q1, q2, q3, q4⟩ := takeErr_zero he
  obtain ⟨q5, q6⟩ := cntErr_zero q4
  refine (rgtake_ok hr p q1 q2 q3 q5 q6 (by omega) hn).mono ?_
  rintro e w' ⟨v, vc', vd', rfl, ho, hK, hP, hg⟩
  have ho' : w'.ownsRow wr.heap.size 9 1 v n ((toldG (r2.put p).M r2.fst n).map Value.string) := ho
  obtain ⟨a, c, rfl, -, -, -⟩ := row_shape ho'
  exact ⟨a, c, rfl, row_txs (by rw [toldG_length]; exact ho'), _, _, _, _, _, Sep.step [(sndC G.gs s1, Fs), (rcvC G.gr G.bm r1, Fr), (gvC G.ga s2, Fa)] h hK (c' := gtC G.gb ((r2.put p).cut n) (K + 1)) (F' := gtF G.gb vc' vd') ⟨vc', vd', _, _, rfl, hP, by rw [List.length_append, List.length_singleton]; omega⟩ (grown_cons hg)⟩
theorem Gp.flush1 {w wr : World} {G : GpS} {s1 s2 : SdM} {r1 r2 : GcM} {K : Nat} {vo : Value} {out : List PktM} {X : List (Cmp × List Nat)} (h : Gp w wr G s1 r1 s2 r2 K vo out X) {ks : List Nat} (hs : StepsG r1.M true r1.fst ks) :
    Calls Try.prog 18 #[.pointer (some ⟨G.gr, 0, none⟩)] wr fun e w' => ∃ a n c, e = .returned (.slice a n c) ∧ n = ks.length ∧ Gp w w' G s1 (r1.cutTo (endG r1.fst ks)) s2 r2 K vo out (X ++ [(txsC (.slice a n c) (textsG r1.M ks), ownB (.slice a n c))]) := by
  obtain ⟨Fs, Fr, Fa, Fb, Fo, h⟩ := h
  obtain ⟨rfl, hr⟩ := h.each (rcvC G.gr G.bm r1, Fr) (by simp)
  refine (gflush_any hr ks hs).mono ?_
  rintro e w' ⟨v, rfl, ho, hK, hP⟩
  obtain ⟨a, c, rfl, -, -, -⟩ := row_shape ho
  have h1 := Sep.step [(sndC G.gs s1, Fs)] h hK (c' := rcvC G.gr G.bm (r1.cutTo (endG r1.fst ks))) (F' := gcF G.gr G.bm) ⟨rfl, hP⟩ (grown_refl _ _)
  refine ⟨a, _, c, rfl, rfl, _, _, _, _, _, h1.add (n := wr.heap.size) h.bel.size (fun d hd x hx => ?_) _ _ ⟨rfl, by rw [textsG_length]; exact row_zero ho⟩ (fun x hx => (row_new ho x hx).1)⟩
  have hall := h.lts
  rcases List.mem_append.1 hd with hd | hd
  · exact hall d (List.mem_append_left _ hd) x hx
  · rcases List.mem_cons.1 hd with rfl | hd
    · exact hr.lt x hx
    · exact hall d (List.mem_cons_of_mem _ (List.mem_cons_of_mem _ hd)) x hx
theorem Gp.flush2 {w wr : World} {G : GpS} {s1 s2 : SdM} {r1 r2 : GcM} {K : Nat} {vo : Value} {out : List PktM} {X : List (Cmp × List Nat)} (h : Gp w wr G s1 r1 s2 r2 K vo out X) {ks : List Nat} (hs : StepsG r2.M true r2.fst ks) (hK9 : K ≤ 1000000000) :
    Calls Try.prog 19 #[.pointer (some ⟨G.gb, 0, none⟩)] wr fun e w' => ∃ a n c, e = .returned (.slice a n c) ∧ n = ks.length ∧ Txs w' a (textsG r2.M ks) ∧ Gp w w' G s1 r1 s2 (r2.cutTo (endG r2.fst ks)) K vo out X := by
  obtain ⟨Fs, Fr, Fa, Fb, Fo, h⟩ := h
  obtain ⟨vc, vd, cs, dd, rfl, hr, hl⟩ := h.each (gtC G.gb r2 K, Fb) (by simp)
  refine (rflush_any hr ks hs (by omega)).mono ?_
  rintro e w' ⟨v, rfl, ho, hK, hP⟩
  obtain ⟨a, c, rfl, -, -, -⟩ := row_shape ho
  exact ⟨a, _, c, rfl, rfl, row_txs (by rw [textsG_length]; exact ho), _, _, _, _, _, Sep.step [(sndC G.gs s1, Fs), (rcvC G.gr G.bm r1, Fr), (gvC G.ga s2, Fa)] h (hK.wider (fun x hx => by rw [List.mem_singleton] at hx; subst hx; exact List.mem_cons_self)) (c' := gtC G.gb (r2.cutTo (endG r2.fst ks)) K) (F' := gtF G.gb vc vd) ⟨vc, vd, cs, dd, rfl, hP, hl⟩ (grown_refl _ _)⟩
/-- A packet more. -/
theorem Gp.push {w wr : World} {G : GpS} {s1 s2 : SdM} {r1 r2 : GcM} {K : Nat} {ao : Option Addr} {no co : Nat} {out : List PktM} {X : List (Cmp × List Nat)} (h : Gp w wr G s1 r1 s2 r2 K (.slice ao no co) out X) (p : PktM) (hm : out.length < 3000000000000) {gx : Nat} (hx : At wr gx 43 [.int .i64 p.short, .string p.data, .string p.sl]) :
    ∃ ao' co' w', (Builtin.append_ #[39, 39] 39 #[.slice ao no co, .slice (some ⟨gx, 0, none⟩) 1 1]).run Try.prog wr = .ok (.slice ao' (out.length + 1) co') w' ∧ Gp w w' G s1 r1 s2 r2 K (.slice ao' (out.length + 1) co') (out ++ [p]) X := by
  obtain ⟨i0, hi, hz0, hz1, hz2⟩ := info_parts Try.infoPk
  have hout := h.out
  obtain ⟨Fs, Fr, Fa, Fb, Fo, h⟩ := h
  obtain ⟨rfl, -⟩ := h.each (pksC (.slice ao no co) out, Fo) (by simp)
  obtain ⟨v', w', hr, ho, hg, _, hb⟩ := run_append_own_at (P := Try.prog) _ 0 39 39 43 i0 _ 3 40 Try.underlying39 hi hz0 hz1 hz2 rfl (by omega) (.slice ao no co) out.length (cellsPk out) hout ⟨gx, 0, none⟩ 1 1 p.cells rfl (fun j u hj => by
    rw [Addr.add_lit, Nat.zero_add, hx.cell]
    exact hj) (fun u hu => cellsPk_one [p] u (by simpa [cellsPk] using hu)) (by unfold maxLen; omega) (by omega) (Nat.zero_le _)
  obtain ⟨ao', co', rfl, -, -, -⟩ := row_shape ho
  refine ⟨ao', co', w', hr, _, _, _, _, _, Sep.step [(sndC G.gs s1, Fs), (rcvC G.gr G.bm r1, Fr), (gvC G.ga s2, Fa), (gtC G.gb r2 K, Fb)] h (Kept.grownR hg) (c' := pksC (.slice ao' (out.length + 1) co') (out ++ [p])) (F' := ownB (.slice ao' (out.length + 1) co')) ⟨rfl, by rw [List.length_append, List.length_singleton, cellsPk_snoc]; exact ho⟩ (fun x hx => ?_)⟩
  have hy' : (Value.slice ao' (out.length + 1) co').ownBlock = some x := by simpa [ownB] using hx
  rcases hb with hb | hb
  · exact .inl (by simpa [ownB, ← hb] using hy')
  · rw [hb] at hy'
    exact .inr (by have := Option.some.inj hy'; omega)
/-- Many packets more. -/
theorem Gp.join {w wr : World} {G : GpS} {s1 s2 : SdM} {r1 r2 : GcM} {K : Nat} {ao : Option Addr} {no co : Nat} {out : List PktM} {X : List (Cmp × List Nat)} (h : Gp w wr G s1 r1 s2 r2 K (.slice ao no co) out X) {y : Value} {ly : List PktM} (hy : wr.ownsRow 0 43 3 y ly.length (cellsPk ly)) (hm : out.length + ly.length < 3000000000000) :
    ∃ ao' n' co' w', (Builtin.append_ #[39, 39] 39 #[.slice ao no co, y]).run Try.prog wr = .ok (.slice ao' n' co') w' ∧ n' = (out ++ ly).length ∧ Gp w w' G s1 r1 s2 r2 K (.slice ao' n' co') (out ++ ly) X := by
  obtain ⟨i0, hi, hz0, hz1, hz2⟩ := info_parts Try.infoPk
  have hout := h.out
  obtain ⟨Fs, Fr, Fa, Fb, Fo, h⟩ := h
  obtain ⟨rfl, -⟩ := h.each (pksC (.slice ao no co) out, Fo) (by simp)
  obtain ⟨v', w', hr, ho, hK, hb⟩ := run_joinG (ty := 39) Try.underlying39 hi hz0 hz1 hz2 rfl (by omega) hout hy (cellsPk_one ly) (by unfold maxLen; omega) (by omega) (Nat.zero_le _)
  obtain ⟨ao', co', rfl, -, -, -⟩ := row_shape ho
  exact ⟨ao', _, co', w', hr, by rw [List.length_append], _, _, _, _, _, Sep.step [(sndC G.gs s1, Fs), (rcvC G.gr G.bm r1, Fr), (gvC G.ga s2, Fa), (gtC G.gb r2 K, Fb)] h hK (c' := pksC (.slice ao' (out.length + ly.length) co') (out ++ ly)) (F' := ownB (.slice ao' (out.length + ly.length) co')) ⟨rfl, by rw [List.length_append, cellsPk_append]; exact ho⟩ hb⟩
theorem Gp.less {w wr : World} {G : GpS} {s1 s2 : SdM} {r1 r2 : GcM} {K : Nat} {vo : Value} {out : List PktM} {X : List (Cmp × List Nat)} (h : Gp w wr G s1 r1 s2 r2 K vo out X) : Gp w wr G s1 r1 s2 r2 K vo out [] := by
  obtain ⟨Fs, Fr, Fa, Fb, Fo, h⟩ := h
  exact ⟨Fs, Fr, Fa, Fb, Fo, Sep.less (L := [(sndC G.gs s1, Fs), (rcvC G.gr G.bm r1, Fr), (gvC G.ga s2, Fa), (gtC G.gb r2 K, Fb), (pksC vo out, Fo)]) (K := X) h⟩
theorem Gp.beside {w wr : World} {G : GpS} {s1 s2 : SdM} {r1 r2 : GcM} {K : Nat} {vo : Value} {out : List PktM} {X : List (Cmp × List Nat)} (h : Gp w wr G s1 r1 s2 r2 K vo out X) {c : Cmp} {F : List Nat} (hc : (c, F) ∈ X) : c.P wr F := by
  obtain ⟨Fs, Fr, Fa, Fb, Fo, h⟩ := h
  exact h.each (c, F) (List.mem_cons_of_mem _ (List.mem_cons_of_mem _ (List.mem_cons_of_mem _ (List.mem_cons_of_mem _ (List.mem_cons_of_mem _ hc)))))
end Go.Proofs.Ytbmdjfolfmgmmag
