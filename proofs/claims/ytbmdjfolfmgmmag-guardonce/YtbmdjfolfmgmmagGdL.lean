import Derived.Test.YtbmdjfolfmgmmagGdK
namespace Go.Proofs.Ytbmdjfolfmgmmag
open Go.ChangeShapes Go.WideShapes Go.ChangeAt Go.RowKit Go.Maps

/-! THE LAW GuardOnce: what stands in memory. -/

def ownB (v : Value) : List Nat := v.ownBlock.toList
structure Gu (w wr : World) (gs gr bm : Nat) (vs vo vt : Value) (sd : SdM) (rc : GcM) (out : List PktM) (tl : List ByteArray) : Prop where
  bel : Below w.heap.size w wr
  sd : PSd wr gs vs sd
  rc : PGc wr gr bm rc
  out : wr.ownsRow w.heap.size 43 3 vo out.length (cellsPk out)
  tld : wr.ownsRow w.heap.size 9 1 vt tl.length (tl.map Value.string)
  nws : ∀ x ∈ sdF gs vs, w.heap.size ≤ x
  nwr : ∀ x ∈ gcF gr bm, w.heap.size ≤ x
  ap1 : ∀ x ∈ sdF gs vs, x ∉ gcF gr bm
  ap2 : ∀ x ∈ ownB vo, x ∉ sdF gs vs ∧ x ∉ gcF gr bm
  ap3 : ∀ x ∈ ownB vt, x ∉ sdF gs vs ∧ x ∉ gcF gr bm ∧ x ∉ ownB vo
theorem row_new {w : World} {B n k : Nat} {T : TypeId} {v : Value} {xs : List Value} (h : w.ownsRow B T k v n xs) : ∀ x ∈ ownB v, B ≤ x ∧ x < w.heap.size := fun x hx => World.ownsRow.lt h x (by simpa [ownB] using hx)
theorem row_kept {w w' : World} {B n k : Nat} {T : TypeId} {v : Value} {xs : List Value} {S : List Nat} (h : w.ownsRow B T k v n xs) (hk : Kept S w w') (hn : ∀ x ∈ ownB v, x ∉ S) : w'.ownsRow B T k v n xs := keptRow h hk (fun g hg => hn g (by simp [ownB, hg]))
theorem below_keptG {w wr w' : World} {S : List Nat} (h : Below w.heap.size w wr) (hk : Kept S wr w') (hs : ∀ x ∈ S, w.heap.size ≤ x) : Below w.heap.size w w' :=
  ⟨hk.os.trans h.os, hk.tape.trans h.tape, hk.output.trans h.output, Nat.le_trans h.size hk.size, fun i hi => (hk.block i (Nat.lt_of_lt_of_le hi h.size) (fun e => by have := hs i e; omega)).trans (h.block i hi)⟩
theorem Gu.below {w wr : World} {gs gr bm : Nat} {vs vo vt : Value} {sd : SdM} {rc : GcM} {out : List PktM} {tl : List ByteArray} (h : Gu w wr gs gr bm vs vo vt sd rc out tl) {w' : World} (hb : Below wr.heap.size wr w') : Gu w w' gs gr bm vs vo vt sd rc out tl :=
  ⟨bthen h.bel hb, h.sd.kept (S := []) (Kept.of_below hb) (by simp), h.rc.kept (S := []) (Kept.of_below hb) (by simp), row_kept h.out (S := []) (Kept.of_below hb) (by simp), row_kept h.tld (S := []) (Kept.of_below hb) (by simp), h.nws, h.nwr, h.ap1, h.ap2, h.ap3⟩
theorem Gu.stepS {w wr : World} {gs gr bm : Nat} {vs vo vt : Value} {sd : SdM} {rc : GcM} {out : List PktM} {tl : List ByteArray} (h : Gu w wr gs gr bm vs vo vt sd rc out tl) {w' : World} {vs' : Value} {sd' : SdM} (hk : Kept (sdF gs vs) wr w') (hP : PSd w' gs vs' sd') (hg : Grown wr.heap.size (blkG vs) (blkG vs')) : Gu w w' gs gr bm vs' vo vt sd' rc out tl := by
  have hf : ∀ x ∈ sdF gs vs', x ∈ sdF gs vs ∨ wr.heap.size ≤ x := fun x hx => by
    rcases List.mem_cons.1 hx with rfl | hx
    · exact .inl List.mem_cons_self
    · rcases hg x hx with hx | hx
      · exact .inl (List.mem_cons_of_mem _ hx)
      · exact .inr hx
  have h1 := h.rc.lt
  have h2 := row_new h.out
  have h3 := row_new h.tld
  have hs := h.bel.size
  refine ⟨below_keptG h.bel hk h.nws, hP, h.rc.kept hk (fun x hx e => h.ap1 x e hx), row_kept h.out hk (fun x hx => (h.ap2 x hx).1), row_kept h.tld hk (fun x hx => (h.ap3 x hx).1), fun x hx => ?_, h.nwr, fun x hx e => ?_, fun x hx => ⟨fun e => ?_, (h.ap2 x hx).2⟩, fun x hx => ⟨fun e => ?_, (h.ap3 x hx).2⟩⟩
  · rcases hf x hx with hx | hx
    · exact h.nws x hx
    · omega
  · rcases hf x hx with hx | hx
    · exact h.ap1 x hx e
    · have := h1 x e; omega
  · rcases hf x e with e | e
    · exact (h.ap2 x hx).1 e
    · have := h2 x hx; omega
  · rcases hf x e with e | e
    · exact (h.ap3 x hx).1 e
    · have := h3 x hx; omega
theorem Gu.stepR {w wr : World} {gs gr bm : Nat} {vs vo vt : Value} {sd : SdM} {rc : GcM} {out : List PktM} {tl : List ByteArray} (h : Gu w wr gs gr bm vs vo vt sd rc out tl) {w' : World} {rc' : GcM} (hk : Kept (gcF gr bm) wr w') (hP : PGc w' gr bm rc') : Gu w w' gs gr bm vs vo vt sd rc' out tl :=
  ⟨below_keptG h.bel hk h.nwr, h.sd.kept hk h.ap1, hP, row_kept h.out hk (fun x hx => (h.ap2 x hx).2), row_kept h.tld hk (fun x hx => (h.ap3 x hx).2.1), h.nws, h.nwr, h.ap1, h.ap2, h.ap3⟩
theorem Gu.stepT {w wr : World} {gs gr bm : Nat} {vs vo vt : Value} {sd : SdM} {rc : GcM} {out : List PktM} {tl : List ByteArray} (h : Gu w wr gs gr bm vs vo vt sd rc out tl) {w' : World} {vt' : Value} {tl' : List ByteArray} (hk : Kept (ownB vt) wr w') (ho : w'.ownsRow w.heap.size 9 1 vt' tl'.length (tl'.map Value.string)) (hb : ∀ x ∈ ownB vt', x ∈ ownB vt ∨ wr.heap.size ≤ x) : Gu w w' gs gr bm vs vo vt' sd rc out tl' := by
  have h0 := h.sd.lt
  have h1 := h.rc.lt
  have h2 := row_new h.out
  refine ⟨below_keptG h.bel hk (fun x hx => (row_new h.tld x hx).1), h.sd.kept hk (fun x hx e => (h.ap3 x e).1 hx), h.rc.kept hk (fun x hx e => (h.ap3 x e).2.1 hx), row_kept h.out hk (fun x hx e => (h.ap3 x e).2.2 hx), ho, h.nws, h.nwr, h.ap1, h.ap2, fun x hx => ?_⟩
  rcases hb x hx with hx | hx
  · exact h.ap3 x hx
  · exact ⟨fun e => by have := h0 x e; omega, fun e => by have := h1 x e; omega, fun e => by have := h2 x e; omega⟩
theorem Gu.stepO {w wr : World} {gs gr bm : Nat} {vs vo vt : Value} {sd : SdM} {rc : GcM} {out : List PktM} {tl : List ByteArray} (h : Gu w wr gs gr bm vs vo vt sd rc out tl) {w' : World} {vo' : Value} {out' : List PktM} (hk : Kept (ownB vo) wr w') (ho : w'.ownsRow w.heap.size 43 3 vo' out'.length (cellsPk out')) (hb : ∀ x ∈ ownB vo', x ∈ ownB vo ∨ wr.heap.size ≤ x) : Gu w w' gs gr bm vs vo' vt sd rc out' tl := by
  have h0 := h.sd.lt
  have h1 := h.rc.lt
  have h2 := row_new h.tld
  refine ⟨below_keptG h.bel hk (fun x hx => (row_new h.out x hx).1), h.sd.kept hk (fun x hx e => (h.ap2 x e).1 hx), h.rc.kept hk (fun x hx e => (h.ap2 x e).2 hx), ho, row_kept h.tld hk (fun x hx e => (h.ap3 x hx).2.2 e), h.nws, h.nwr, h.ap1, fun x hx => ?_, fun x hx => ⟨(h.ap3 x hx).1, (h.ap3 x hx).2.1, fun e => ?_⟩⟩
  · rcases hb x hx with hx | hx
    · exact h.ap2 x hx
    · exact ⟨fun e => by have := h0 x e; omega, fun e => by have := h1 x e; omega⟩
  · rcases hb x e with e | e
    · exact (h.ap3 x hx).2.2 e
    · have := h2 x hx; omega
/-- Confirm of all that was told. -/
theorem Gu.confirm {w wr : World} {gs gr bm : Nat} {vs vo vt : Value} {sd : SdM} {rc : GcM} {out : List PktM} {tl : List ByteArray} (h : Gu w wr gs gr bm vs vo vt sd rc out tl) (h1 : sd.beg ≤ rc.fst) (h2 : rc.fst ≤ sd.nxt) :
    Calls Try.prog 10 #[.pointer (some ⟨gs, 0, none⟩), .int .i64 ((rc.fst : Int) - 1)] wr fun e w' => ∃ x vs', e = .returned (.int .i64 x) ∧ Gu w w' gs gr bm vs' vo vt (sd.upto rc.fst) rc out tl := by
  rcases Nat.eq_zero_or_pos rc.fst with h0 | h0
  · have e : sd.upto rc.fst = sd := by
      unfold SdM.upto
      have hb : sd.beg = 0 := by omega
      cases sd
      simp only at hb
      rw [h0, hb]
      rfl
    rw [e]
    refine (gconf_bad h.sd (.inl (by omega))).mono ?_
    rintro e w' ⟨rfl, hb⟩
    exact ⟨_, vs, rfl, h.below hb⟩
  · have hc := gconf_ok (c := rc.fst - 1) h.sd (by omega)
    rw [show ((rc.fst - 1 : Nat) : Int) = (rc.fst : Int) - 1 by omega] at hc
    have e : sd.confirm (rc.fst - 1) = sd.upto rc.fst := by
      unfold SdM.confirm SdM.upto SdM.freshN
      rw [show rc.fst - 1 + 1 - sd.beg = rc.fst - sd.beg by omega, show sd.beg + (rc.fst - sd.beg) = rc.fst by omega]
    rw [e] at hc
    refine hc.mono ?_
    rintro e w' ⟨rfl, hk, vs', hP, hg⟩
    exact ⟨_, vs', rfl, h.stepS hk hP hg⟩
theorem Gu.smove {w wr : World} {gs gr bm : Nat} {vs vo vt : Value} {sd : SdM} {rc : GcM} {out : List PktM} {tl : List ByteArray} (h : Gu w wr gs gr bm vs vo vt sd rc out tl) {k : Int} (hk : keyOk k = true) :
    Calls Try.prog 12 #[.pointer (some ⟨gs, 0, none⟩), .int .i64 k] wr fun e w' => ∃ G, e = .returned (.tuple #[.slice (some ⟨G, 0, none⟩) sd.wait.length sd.wait.length, .int .i64 0]) ∧ Gu w w' gs gr bm vs (.slice (some ⟨G, 0, none⟩) sd.wait.length sd.wait.length) vt (sd.move k) rc (sd.again k) tl ∧ Gu w w' gs gr bm vs vo vt (sd.move k) rc out tl := by
  refine (gmove_ok h.sd hk).mono ?_
  rintro e w' ⟨G, rfl, hG, hA, hK, hP⟩
  have h1 := h.stepS hK hP (fun x hx => .inl hx)
  refine ⟨G, rfl, ?_, h1⟩
  have hf : sd.wait.length ≤ 16777216 := by
    have : sd.beg + sd.wait.length ≤ 16777216 := h.sd.ok.few
    omega
  have ho : w'.ownsRow w.heap.size 43 3 (.slice (some ⟨G, 0, none⟩) sd.wait.length sd.wait.length) (sd.again k).length (cellsPk (sd.again k)) := by
    rw [SdM.again_length]
    refine ⟨by rw [cellsPk_length, SdM.again_length], .inr ⟨G, _, _, rfl, Nat.le_trans h.bel.size hG, hA, Nat.le_refl _, by unfold maxLen; omega, by simp [cellsPk_length, SdM.again_length], ?_⟩⟩
    rw [List.take_of_length_le]
    simp [cellsPk_length, SdM.again_length]
  have a0 := h.sd.lt
  have a1 := h.rc.lt
  have a2 := row_new h.tld
  exact ⟨h1.bel, h1.sd, h1.rc, ho, h1.tld, h1.nws, h1.nwr, h1.ap1, fun x hx => ⟨fun e => by
    have : x = G := by simpa [ownB, Value.ownBlock] using hx
    have := a0 x e; omega, fun e => by
    have : x = G := by simpa [ownB, Value.ownBlock] using hx
    have := a1 x e; omega⟩, fun x hx => ⟨(h1.ap3 x hx).1, (h1.ap3 x hx).2.1, fun e => by
    have : x = G := by simpa [ownB, Value.ownBlock] using e
    have := a2 x hx; omega⟩⟩
theorem Gu.rmove {w wr : World} {gs gr bm : Nat} {vs vo vt : Value} {sd : SdM} {rc : GcM} {out : List PktM} {tl : List ByteArray} (h : Gu w wr gs gr bm vs vo vt sd rc out tl) {k : Int} (hk : keyOk k = true) :
    Calls Try.prog 17 #[.pointer (some ⟨gr, 0, none⟩), .int .i64 k] wr fun e w' => e = .returned (.int .i64 0) ∧ Gu w w' gs gr bm vs vo vt sd (rc.move k) out tl := by
  refine (grmove_ok h.rc hk).mono ?_
  rintro e w' ⟨rfl, hK, hP⟩
  exact ⟨rfl, h.stepR hK hP⟩
theorem Gu.send {w wr : World} {gs gr bm : Nat} {vs vo vt : Value} {sd : SdM} {rc : GcM} {out : List PktM} {tl : List ByteArray} (h : Gu w wr gs gr bm vs vo vt sd rc out tl) {d : ByteArray} (hd : d.size ≤ 500) (hf : sd.nxt < 16777216) :
    Calls Try.prog 8 #[.pointer (some ⟨gs, 0, none⟩), .string d] wr fun e w' => ∃ vs', e = .returned (.tuple #[(pktG sd.key sd.nxt d).val, .int .i64 0]) ∧ Gu w w' gs gr bm vs' vo vt (sd.send d) rc out tl := by
  refine (gsend_ok h.sd hd hf).mono ?_
  rintro e w' ⟨rfl, hK, vs', hP, hg⟩
  exact ⟨vs', rfl, h.stepS hK hP hg⟩
/-- One row behind another. -/
theorem run_joinG {w : World} {B B2 : Nat} {t ty e : TypeId} {i : TypeInfo} {z : Value} {size bytes : Nat} (ht : Try.prog.underlying t = some (.slice e)) (hi : Try.prog.info? e = some i) (hz : i.zero = some z) (hsize : i.size = size) (hby : i.bytes = bytes) (hzs : z.cells.size = size) (hsz : 0 < size)
    {v x : Value} {n m : Nat} {xs ys : List Value} (hown : w.ownsRow B e size v n xs) (hsrc : w.ownsRow B2 e size x m ys) (h1 : ∀ u ∈ ys, u.oneCell' = true) (h63 : n + m ≤ maxLen) (hbytes : (n + m) * bytes ≤ 140737488355328) (hbase : B ≤ w.heap.size) :
    ∃ v' w', (Builtin.append_ #[t, t] ty #[v, x]).run Try.prog w = .ok v' w' ∧ w'.ownsRow B e size v' (n + m) (xs ++ ys) ∧ Kept (ownB v) w w' ∧ (∀ y ∈ ownB v', y ∈ ownB v ∨ w.heap.size ≤ y) := by
  have hs2 := hsrc
  rcases hsrc.2 with ⟨rfl, rfl⟩ | ⟨g, cap, cur, rfl, _, _, _⟩
  · have hy : ys = [] := List.eq_nil_of_length_eq_zero (by simpa using hsrc.1)
    subst hy
    exact ⟨v, w, run_append_owned_none (P := Try.prog) w B t ty e i size ht hi v n xs hown, by simpa using hown, Kept.refl _ _, fun y hy => .inl hy⟩
  · obtain ⟨v', w', hr, ho, hg, _, hb⟩ := run_append_own_at (P := Try.prog) w B t ty e i z size bytes ht hi hz hsize hby hzs hsz v n xs hown ⟨g, 0, none⟩ m cap ys hsrc.1 (fun j u hj => by
      have hj' : j < m * size := by rw [← hsrc.1]; exact (List.getElem?_eq_some_iff.1 hj).1
      rw [Addr.add_lit, Nat.zero_add, hs2.cellAt j hj', hj]) h1 h63 hbytes hbase
    refine ⟨v', w', hr, ho, Kept.grownR hg, fun y hy => ?_⟩
    have hy' : v'.ownBlock = some y := by simpa [ownB] using hy
    rcases hb with hb | hb
    · exact .inl (by simpa [ownB, ← hb] using hy')
    · rw [hb] at hy'
      exact .inr (by have := Option.some.inj hy'; omega)
end Go.Proofs.Ytbmdjfolfmgmmag
