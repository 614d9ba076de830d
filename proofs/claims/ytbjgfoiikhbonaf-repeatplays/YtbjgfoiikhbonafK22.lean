import Derived.Test.YtbjgfoiikhbonafK21
set_option linter.unusedVariables false
set_option linter.unusedSimpArgs false
namespace Go.Proofs.Ytbjgfoiikhbonaf
open Go.ChangeShapes Go.WideShapes Go.ChangeAt Go.RowKit
theorem endLe_of {l : Sps} (h : Srt l) {e : Nat} (hi : ∀ t, inS l t → t < e) : EndLe l e := fun q hq => by
  have h1 := h.1 q hq
  have := hi (q.2 - 1) ⟨q, hq, by omega, by omega⟩
  omega
/-- Bytes of units have been lost: those of P that were sent. -/
def Lost (P : Nat → Nat → Prop) (us us' : List UnP) : Prop := us'.length = us.length ∧ ∀ i, i < us.length → (us'.getD i .zero).text = (us.getD i .zero).text ∧ (us'.getD i .zero).sent = (us.getD i .zero).sent ∧ (us'.getD i .zero).dn = (us.getD i .zero).dn ∧ Srt (us'.getD i .zero).al ∧ (∀ t, inS (us'.getD i .zero).al t ↔ inS (us.getD i .zero).al t ∨ ((us.getD i .zero).dn = false ∧ t < (us.getD i .zero).sent ∧ P i t))
/-- What is asked of units. -/
structure UsOk (us : List UnP) : Prop where
  srt : ∀ i, i < us.length → Srt (us.getD i .zero).al
  sent : ∀ i, i < us.length → (us.getD i .zero).sent ≤ (us.getD i .zero).text.size
  size : ∀ i, i < us.length → (us.getD i .zero).text.size ≤ 1500
  inn : ∀ i, i < us.length → ∀ t, inS (us.getD i .zero).al t → t < (us.getD i .zero).sent
theorem Lost.refl {us : List UnP} (h : UsOk us) : Lost (fun _ _ => False) us us := ⟨rfl, fun i hi => ⟨rfl, rfl, rfl, h.srt i hi, fun _t => ⟨.inl, fun h => h.elim id fun h => h.2.2.elim⟩⟩⟩
theorem Lost.ok {P : Nat → Nat → Prop} {us us' : List UnP} (h : Lost P us us') (hu : UsOk us) : UsOk us' := by
  refine ⟨fun i hi => ?_, fun i hi => ?_, fun i hi => ?_, fun i hi t ht => ?_⟩
  all_goals
    rw [h.1] at hi
    obtain ⟨e1, e2, e3, e4, e5⟩ := h.2 i hi
  · exact e4
  · rw [e1, e2]; exact hu.sent i hi
  · rw [e1]; exact hu.size i hi
  · rw [e2]
    rcases (e5 t).1 ht with h' | h'
    · exact hu.inn i hi t h'
    · exact h'.2.1
/-- One more unit has lost some. -/
theorem Lost.step {P : Nat → Nat → Prop} {us us' : List UnP} {i a z : Nat} {l' : Sps} {v' : Value} (h : Lost P us us') (hi : i < us.length) (hl : Srt l') (hm : ∀ t, inS l' t ↔ inS (us'.getD i .zero).al t ∨ ((us'.getD i .zero).dn = false ∧ a ≤ t ∧ t < min z (us'.getD i .zero).sent)) :
    Lost (fun j t => P j t ∨ (j = i ∧ a ≤ t ∧ t < z)) us (us'.set i { us'.getD i .zero with av := v', al := l' }) := by
  refine ⟨by rw [List.length_set]; exact h.1, fun j hj => ?_⟩
  obtain ⟨e1, e2, e3, e4, e5⟩ := h.2 j hj
  by_cases hji : j = i
  · subst hji
    rw [getD_setS (by rw [h.1]; exact hj)]
    refine ⟨e1, e2, e3, hl, fun t => ?_⟩
    show inS l' t ↔ _
    rw [hm t, e5 t, e2, e3]
    constructor
    · rintro ((h1 | h1) | h1)
      · exact .inl h1
      · exact .inr ⟨h1.1, h1.2.1, .inl h1.2.2⟩
      · exact .inr ⟨h1.1, by omega, .inr ⟨rfl, h1.2.1, by omega⟩⟩
    · rintro (h1 | ⟨h1, h2, h3 | ⟨_, h3, h4⟩⟩)
      · exact .inl (.inl h1)
      · exact .inl (.inr ⟨h1, h2, h3⟩)
      · exact .inr ⟨h1, h3, by omega⟩
  · rw [getD_setN (fun e => hji e.symm)]
    refine ⟨e1, e2, e3, e4, fun t => ?_⟩
    rw [e5 t]
    constructor
    · rintro (h1 | h1)
      · exact .inl h1
      · exact .inr ⟨h1.1, h1.2.1, .inl h1.2.2⟩
    · rintro (h1 | ⟨h1, h2, h3 | h3⟩)
      · exact .inl h1
      · exact .inr ⟨h1, h2, h3⟩
      · exact absurd h3.1 hji
theorem Lost.congr {P Q : Nat → Nat → Prop} {us us' : List UnP} (h : Lost P us us') (he : ∀ i, i < us.length → ∀ t, t < (us.getD i .zero).sent → (P i t ↔ Q i t)) : Lost Q us us' := by
  refine ⟨h.1, fun i hi => ?_⟩
  obtain ⟨e1, e2, e3, e4, e5⟩ := h.2 i hi
  refine ⟨e1, e2, e3, e4, fun t => ?_⟩
  rw [e5 t]
  constructor
  · rintro (h1 | ⟨h1, h2, h3⟩)
    · exact .inl h1
    · exact .inr ⟨h1, h2, (he i hi t h2).1 h3⟩
  · rintro (h1 | ⟨h1, h2, h3⟩)
    · exact .inl h1
    · exact .inr ⟨h1, h2, (he i hi t h2).2 h3⟩
/-- Blocks of changed units are those of the old ones, or new. -/
def NewU (B : Nat) (us us' : List UnP) : Prop := ∀ i, i < us.length → ∀ g, (us'.getD i .zero).av.ownBlock = some g → (us.getD i .zero).av.ownBlock = some g ∨ B ≤ g
theorem NewU.refl (B : Nat) (us : List UnP) : NewU B us us := fun _ _ _ h => .inl h
theorem NewU.set {B B' : Nat} {us us' : List UnP} {i : Nat} {x' : UnP} (h : NewU B us us') (hl : us'.length = us.length) (hB : B ≤ B') (hi : i < us.length) (hn : ∀ g, x'.av.ownBlock = some g → (us'.getD i .zero).av.ownBlock = some g ∨ B' ≤ g) : NewU B us (us'.set i x') := fun j hj g hg => by
  by_cases hji : j = i
  · subst hji
    rw [getD_setS (by omega)] at hg
    rcases hn g hg with h1 | h1
    · exact h j hj g h1
    · exact .inr (by omega)
  · rw [getD_setN (fun e => hji e.symm)] at hg
    exact h j hj g hg
end Go.Proofs.Ytbjgfoiikhbonaf
namespace Go.Proofs.Ytbjgfoiikhbonaf
open Go.ChangeShapes Go.WideShapes Go.ChangeAt Go.RowKit
def lkOf (bg : Nat) (gs : List GapM) (i : Nat) : Bool := gs.any fun g => aheadN g.num bg == i
def lkC (bg : Nat) (gs : List GapM) : List Value := (List.range 32).map fun i => Value.bool (lkOf bg gs i)
theorem lkC_nil (bg : Nat) : lkC bg [] = List.replicate 32 (.bool false) := by
  unfold lkC lkOf
  rfl
theorem lkC_len (bg : Nat) (gs : List GapM) : (lkC bg gs).length = 32 := by simp [lkC]
theorem lkC_at (bg : Nat) (gs : List GapM) {i : Nat} (hi : i < 32) : (lkC bg gs)[i]? = some (.bool (lkOf bg gs i)) := by
  unfold lkC
  rw [List.getElem?_map, List.getElem?_range hi]
  rfl
theorem lkC_snoc (bg : Nat) (gs : List GapM) (g : GapM) (h : aheadN g.num bg < 32) : lkC bg (gs ++ [g]) = (lkC bg gs).set (aheadN g.num bg) (.bool true) := by
  refine List.ext_getElem? fun i => ?_
  rw [List.getElem?_set, lkC_len]
  by_cases hi : i < 32
  · rw [lkC_at _ _ hi, lkC_at _ _ hi]
    by_cases e : aheadN g.num bg = i
    · rw [if_pos e, if_pos h]
      simp [lkOf, e]
    · rw [if_neg e]
      simp [lkOf, e]
  · rw [if_neg (by omega), List.getElem?_eq_none (by rw [lkC_len]; omega), List.getElem?_eq_none (by rw [lkC_len]; omega)]
/-- The bytes that gaps speak of. -/
def gapP (bg : Nat) (gs : List GapM) (i t : Nat) : Prop := ∃ g ∈ gs, aheadN g.num bg = i ∧ g.at t = true
def LGPost (w : World) (b win bg : Nat) (ua : Option Addr) (c : Nat) (us : List UnP) (gs : List GapM) : Ending → World → Prop := fun e w' => e = .returned (.agg (lkC bg gs).toArray) ∧ Kept (sndF b ua us) w w' ∧ ∃ us', PSnd w' b win bg ua c us' ∧ Lost (gapP bg gs) us us' ∧ NewU w.heap.size us us'
theorem keptNew {S : List Nat} {a w : World} (h : Kept S a w) {p : Addr} (hp : a.heap.size ≤ p.block) (u : Value) : Kept S a (w.setCell p u) :=
  ⟨h.os, h.tape, h.output, by rw [World.size_setCell]; exact h.size, fun k hk hn => (heap_setCell_other w p k u (by omega)).trans (h.block k hk hn)⟩
theorem keptChain {F T : List Nat} {w wr w2 : World} (h : Kept F w wr) (h2 : Kept T wr w2) (ht : ∀ x ∈ T, x ∈ F ∨ w.heap.size ≤ x) : Kept F w w2 :=
  ⟨h2.os.trans h.os, h2.tape.trans h.tape, h2.output.trans h.output, Nat.le_trans h.size h2.size, fun k hk hn => by
    rw [h2.block k (Nat.lt_of_lt_of_le hk h.size) (fun hx => (ht k hx).elim hn (by omega)), h.block k hk hn]⟩
set_option maxRecDepth 100000 in
set_option maxHeartbeats 2000000 in
theorem loseGaps_any {w : World} {b win bg d : Nat} {ua : Option Addr} {c : Nat} {us : List UnP} (gs : List GapM) (a : Option Addr) (n cc : Nat) (h : PSnd w b win bg ua c us) (hbg : bg < 64) (hd : d ≤ 32) (hdl : d ≤ us.length) (hok : UsOk us) (hg : gs.all (gapOkP bg d us) = true) (hG : Gps w a gs) (hNI : gs ≠ [] → NotIn (sndF b ua us) a) (hn : gs.length = n) (hm : n ≤ maxLen) :
    Calls Try.prog 48 #[.pointer (some ⟨b, 0, none⟩), .slice a n cc] w (LGPost w b win bg ua c us gs) := by
  obtain ⟨-, c1, c2⟩ := h.head
  have hbl := h.hd.lt
  have hm' : n ≤ 9223372036854775807 := by unfold maxLen at hm; omega
  have hlt := h.lt
  have H := hid h
  have HOK := hid hok
  have HGS := hid hg
  have HG := hid hG
  have HNI := hid hNI
  have HN := hid hn
  have HLT := hid hlt
  clear h hok hg hG hNI hn hm c1 c2 hlt
  go_enter Try.func48, Try.ntmps48
  go_wp2_with fail
  go_loopw [12] (fun vi wr => ∃ k : Nat, k ≤ n ∧ vi = .int .i64 k ∧ ∃ us', PSnd wr b win bg ua c us' ∧ Lost (gapP bg (gs.take k)) us us' ∧ NewU (w.heap.size + 2) us us' ∧ Kept (sndF b ua us) w wr ∧ At wr (w.heap.size + 1) 131 (lkC bg (gs.take k)) ∧ At wr w.heap.size 131 (List.replicate 32 (.bool false))) (fun vi _ => n - (intOf vi).toNat)
  case atStart =>
    refine ⟨0, by omega, rfl, us, H.out.kept (((Kept.refl [] w).alloc _).alloc _) (by simp), ?_, NewU.refl _ _, ((Kept.refl _ w).alloc _).alloc _, ?_, ?_⟩
    · refine (Lost.refl HOK.out).congr fun i hi t ht => ⟨fun h => h.elim, fun ⟨g, hg, _⟩ => ?_⟩
      simp at hg
    · have := at_alloc (w.alloc (.cells (List.replicate 32 (.bool false)).toArray 131)) 131 (List.replicate 32 (.bool false))
      rw [World.size_alloc] at this
      rw [List.take_zero, lkC_nil]
      exact this
    · exact (at_alloc w 131 (List.replicate 32 (.bool false))).kept (S := []) ((Kept.refl _ _).alloc _) (by simp)
  case round =>
    obtain ⟨k, hk, rfl, us', hP, hL, hNU, hK, hA1, hA0⟩ := hrel
    by_cases hkn : k < n
    · have hkl : k < gs.length := by rw [HN.out]; exact hkn
      obtain ⟨gb, go, rfl, hC⟩ := HG.out (by rintro rfl; simp at hkl)
      obtain ⟨e0, e1, e2⟩ := hC k hkl
      have hgb : gb ∉ sndF b ua us := HNI.out (by rintro rfl; simp at hkl) _ rfl
      have f0 := keptCellQ hK e0 hgb
      have f1 := keptCellQ hK e1 hgb
      have f2 := keptCellQ hK e2 hgb
      have hgk := List.all_eq_true.1 HGS.out (gs.getD k .zero) (by
        rw [List.getD_eq_getElem?_getD, List.getElem?_eq_getElem hkl]
        exact List.getElem_mem _)
      have htk : gs.take (k + 1) = gs.take k ++ [gs.getD k .zero] := by
        rw [List.take_add_one, List.getD_eq_getElem?_getD, List.getElem?_eq_getElem hkl]
        rfl
      have HTK := hid htk
      clear hC e0 e1 e2 htk
      generalize gs.getD k .zero = g at *
      unfold gapOkP at hgk
      rw [Bool.and_eq_true, Bool.and_eq_true, decide_eq_true_eq, decide_eq_true_eq, decide_eq_true_eq] at hgk
      obtain ⟨hnum, hAd, hrest⟩ := hgk
      have hah := fun W => ahead_at (k := g.num) (bg := bg) W hbg hnum.1 hnum.2
      have hAl : aheadN g.num bg < us'.length := by rw [hL.1]; omega
      have hAl0 : aheadN g.num bg < us.length := by omega
      have hA32 : aheadN g.num bg < 32 := by omega
      obtain ⟨ug, hua, hugb, hun⟩ := hP.un hAl
      obtain ⟨m1, m2, m3, m4, m5⟩ := hL.2 _ hAl0
      have hsz0 := HOK.out.size _ hAl0
      have hsn0 := HOK.out.sent _ hAl0
      have hin0 := HOK.out.inn _ hAl0
      have hszW : w.heap.size + 1 < wr.heap.size := hA1.lt
      have hbig : ∀ x ∈ sndF b ua us', x ≠ w.heap.size + 1 ∧ x ≠ w.heap.size := fun x hx => by
        have hold : x ∈ sndF b ua us ∨ w.heap.size + 2 ≤ x := by
          rcases sndF_mem hx with rfl | ⟨y, hy, rfl⟩ | ⟨i, hi, e⟩
          · exact .inl (sndF_b _ _ _)
          · exact .inl (sndF_u hy)
          · rw [hL.1] at hi
            rcases hNU i hi x e with h1 | h1
            · exact .inl (sndF_a hi h1)
            · exact .inr h1
        rcases hold with h1 | h1
        · have := HLT.out x h1
          omega
        · omega
      obtain ⟨-, c1, c2⟩ := hP.head
      subst hua
      have HP := hid hP
      have HL := hid hL
      have HNU := hid hNU
      have HK := hid hK
      have HA1 := hid hA1
      have HA0 := hid hA0
      have HBIG := hid hbig
      have u0 := hun.c0
      have HUN := hid hun
      have HM := hid m5
      have HHA := hid (show lkC bg (gs.take (k + 1)) = (lkC bg (gs.take k)).set (aheadN g.num bg) (.bool true) by rw [HTK.out, lkC_snoc _ _ _ hA32])
      have hcA : wr.cell? ⟨w.heap.size + 1, aheadN g.num bg, none⟩ = some (.bool (lkOf bg (gs.take k) (aheadN g.num bg))) := by rw [hA1.cell, lkC_at _ _ hA32]
      have hfA := hA1.free (aheadN g.num bg)
      clear hP hL hNU hK hA1 hA0 hbig hun m5
      obtain ⟨num, frm, til⟩ := g
      dsimp only at *
      obtain ⟨z, hz⟩ : ∃ z : Nat, z = if til < 0 then (us.getD (aheadN num bg) .zero).text.size else til.toNat := ⟨_, rfl⟩
      obtain ⟨a0, ha0⟩ : ∃ a0 : Nat, frm = (a0 : Int) := ⟨frm.toNat, by omega⟩
      subst ha0
      have hz3 : z ≤ 3000 := by rw [hz]; split <;> omega
      have hlose : ∀ W, Kept [w.heap.size + 1] wr W → Calls Try.prog 49 #[.pointer (some ⟨ug, aheadN num bg * 4, none⟩), .agg #[.int .i64 (a0 : Int), .int .i64 (z : Int)]] W (LosePost W ug (aheadN num bg * 4) (us'.getD (aheadN num bg) .zero) a0 z) := fun W hW => by
        have hu : UnAt W ug (aheadN num bg * 4) (us'.getD (aheadN num bg) .zero) := HUN.out.kept hW (by simpa using (HBIG.out ug (sndF_u (y := ⟨ug, 0, none⟩) rfl)).1) (fun g' hg' => by simpa using (HBIG.out g' (sndF_a hAl hg')).1)
        refine lose_any hu m4 ?_ (by rw [m2]; omega) (by omega) hz3
        refine endLe_of m4 fun t ht => ?_
        rcases (HM.out t).1 ht with h' | h'
        · have := hin0 t h'
          omega
        · omega
      have hend : ∀ W w2, Kept [w.heap.size + 1] wr W → At W (w.heap.size + 1) 131 (lkC bg (gs.take (k + 1))) → At W w.heap.size 131 (List.replicate 32 (.bool false)) → LosePost W ug (aheadN num bg * 4) (us'.getD (aheadN num bg) .zero) a0 z (.returned (.tuple #[])) w2 → ∃ us'', PSnd w2 b win bg (some ⟨ug, 0, none⟩) c us'' ∧ Lost (gapP bg (gs.take (k + 1))) us us'' ∧ NewU (w.heap.size + 2) us us'' ∧ Kept (sndF b (some ⟨ug, 0, none⟩) us) w w2 ∧ At w2 (w.heap.size + 1) 131 (lkC bg (gs.take (k + 1))) ∧ At w2 w.heap.size 131 (List.replicate 32 (.bool false)) := fun W w2 hW hL1 hL0 hLP => by
        obtain ⟨-, v', l', p1, p2, p3, p4, p5⟩ := hLP
        have hPW : PSnd W b win bg (some ⟨ug, 0, none⟩) c us' := HP.out.kept hW (fun x hx => by simpa using (HBIG.out x hx).1)
        have hS : ∀ s ∈ ug :: (us'.getD (aheadN num bg) .zero).av.ownBlock.toList, s ∈ sndF b (some ⟨ug, 0, none⟩) us' := fun s hs => by
          rw [List.mem_cons] at hs
          rcases hs with rfl | hs
          · exact sndF_u (y := ⟨s, 0, none⟩) rfl
          · exact sndF_a hAl (by simpa using hs)
        refine ⟨us'.set (aheadN num bg) { us'.getD (aheadN num bg) .zero with av := v', al := l' }, ?_, ?_, ?_, ?_, ?_, ?_⟩
        · exact hPW.upd hAl (f := 2) (by omega) p1 (fun s hs => by simpa using hs) rfl p2 p5
        · refine (HL.out.step (v' := v') hAl0 p3 p4).congr fun i hi t ht => ?_
          rw [HTK.out]
          constructor
          · rintro (⟨g, hg, h1⟩ | ⟨rfl, h1, h2⟩)
            · exact ⟨g, List.mem_append_left _ hg, h1⟩
            · refine ⟨⟨num, a0, til⟩, List.mem_append_right _ (by simp), rfl, decide_eq_true ⟨by show (a0 : Int) ≤ t; omega, ?_⟩⟩
              show til < 0 ∨ (t : Int) < til
              by_cases hti : til < 0
              · exact .inl hti
              · rw [hz, if_neg hti] at h2
                exact .inr (by omega)
          · rintro ⟨g, hg, h1, h2⟩
            rw [List.mem_append, List.mem_singleton] at hg
            rcases hg with hg | rfl
            · exact .inl ⟨g, hg, h1, h2⟩
            · have h3 := of_decide_eq_true h2
              dsimp only at h1 h3
              subst h1
              refine .inr ⟨rfl, by omega, ?_⟩
              rw [hz]
              split
              · omega
              · omega
        · exact HNU.out.set HL.out.1 (show w.heap.size + 2 ≤ W.heap.size by have := hW.size; omega) hAl0 p5
        · refine keptChain (keptChain HK.out hW (fun x hx => by simp at hx; omega)) p1.kept (fun x hx => ?_)
          rcases sndF_mem (hS x hx) with rfl | ⟨y, hy, rfl⟩ | ⟨i, hi, e⟩
          · exact .inl (sndF_b _ _ _)
          · exact .inl (sndF_u hy)
          · rw [HL.out.1] at hi
            rcases HNU.out i hi x e with h1 | h1
            · exact .inl (sndF_a hi h1)
            · exact .inr (by omega)
        · exact hL1.kept p1.kept (fun hx => (HBIG.out _ (hS _ hx)).1 rfl)
        · exact hL0.kept p1.kept (fun hx => (HBIG.out _ (hS _ hx)).2 rfl)
      have HLO := hid hlose
      have HEN := hid hend
      have htx : (us'.getD (aheadN num bg) .zero).text = (us.getD (aheadN num bg) .zero).text := m1
      rw [htx] at u0
      have HZ := hid hz
      clear hlose hend m1 m2 m3 m4 htx hin0 hsn0 hz
      generalize (us.getD (aheadN num bg) .zero).text = tx at *
      generalize us'.length = N' at *
      generalize hLK : lkOf bg (gs.take k) (aheadN num bg) = lk at *
      clear hLK
      generalize hAe : aheadN num bg = A at *
      clear hAe
      go_upto_region 5 with fail
      have hkA : Kept [] wr (wr.alloc (.cells #[.int .i64 num, .int .i64 (a0 : Int), .int .i64 til] 130)) := (Kept.refl _ wr).alloc _
      have hAG := at_alloc wr 130 [.int .i64 num, .int .i64 (a0 : Int), .int .i64 til]
      generalize wr.alloc (.cells #[.int .i64 num, .int .i64 (a0 : Int), .int .i64 til] 130) = W1 at *
      have z1 := keptCellQ hkA c1 (by simp)
      have z2 := keptCellQ hkA c2 (by simp)
      have zu := keptCellQ hkA u0 (by simp)
      have zA := keptCellQ hkA hcA (by simp)
      have zf := keptFree hkA hfA (by show w.heap.size + 1 < wr.heap.size; exact hszW) (by simp)
      have g0 : W1.cell? ⟨wr.heap.size, 0, none⟩ = some (.int .i64 num) := hAG.cell 0
      have g1 : W1.cell? ⟨wr.heap.size, 1, none⟩ = some (.int .i64 (a0 : Int)) := hAG.cell 1
      have g2 : W1.cell? ⟨wr.heap.size, 2, none⟩ = some (.int .i64 til) := hAG.cell 2
      have gf := hAG.free 2
      have hneL : ¬ (w.heap.size + 1 = wr.heap.size) := by omega
      have hugl : ug < wr.heap.size := World.block_lt_of_cell? wr _ u0
      have hugL : ¬ (ug = w.heap.size + 1) := (HBIG.out ug (sndF_u (y := ⟨ug, 0, none⟩) rfl)).1
      have hbL : ¬ (b = w.heap.size + 1) := (HBIG.out b (sndF_b _ _ _)).1
      have hbw : b < wr.heap.size := World.block_lt_of_cell? wr _ c1
      have HKA := hid hkA
      clear hkA hAG c1 c2 u0 hcA hfA f0 f1 f2
      go_quiet (first | (go_at_call 40; exact Calls.quiet_of_same (hah _)))
      have hbase : ∀ q, Kept [w.heap.size + 1] wr ((W1.drewN q).setCell ⟨w.heap.size + 1, A, none⟩ (.bool true)) := fun q => ((HKA.out.wider (by simp)).drewN q).setCell (by simp) _
      have hbL1 : ∀ q, At ((W1.drewN q).setCell ⟨w.heap.size + 1, A, none⟩ (.bool true)) (w.heap.size + 1) 131 (lkC bg (gs.take (k + 1))) := fun q => by
        rw [HHA.out]
        exact (HA1.out.kept (HKA.out.drewN q) (by simp)).setCell (o := A) (.bool true)
      have hbL0 : ∀ q, At ((W1.drewN q).setCell ⟨w.heap.size + 1, A, none⟩ (.bool true)) w.heap.size 131 (List.replicate 32 (.bool false)) := fun q => (HA0.out.kept (HKA.out.drewN q) (by simp)).setOther _ _ (by show w.heap.size ≠ w.heap.size + 1; omega)
      have HB0 := hid hbase
      have HB1 := hid hbL1
      have HB2 := hid hbL0
      clear hbase hbL1 hbL0
      by_cases hti : til < 0
      · have ez : z = tx.size := by rw [HZ.out, if_pos hti]
        subst ez
        go_wp2_with (go_at_call 49; refine (HLO.out _ (keptNew (HB0.out _) (Nat.le_refl _) _)).mono ?_; intro e w2 hlp; obtain rfl := hlp.1; obtain ⟨us'', r1, r2, r3, r4, r5, r6⟩ := HEN.out _ _ (keptNew (HB0.out _) (Nat.le_refl _) _) ((HB1.out _).setOther _ _ (by show w.heap.size + 1 ≠ wr.heap.size; omega)) ((HB2.out _).setOther _ _ (by show w.heap.size ≠ wr.heap.size; omega)) hlp; have R1 := hid r1; have R2 := hid r2; have R3 := hid r3; have R4 := hid r4; have R5 := hid r5; have R6 := hid r6; clear r1 r2 r3 r4 r5 r6 hlp)
        exact ⟨⟨k + 1, by omega, by go_num, us'', R1.out, R2.out, R3.out, R4.out, R5.out, R6.out⟩, by simp [intOf]; omega⟩
      · have ez : (z : Int) = til := by rw [HZ.out, if_neg hti]; omega
        subst ez
        go_wp2_with (go_at_call 49; refine (HLO.out _ (HB0.out _)).mono ?_; intro e w2 hlp; obtain rfl := hlp.1; obtain ⟨us'', r1, r2, r3, r4, r5, r6⟩ := HEN.out _ _ (HB0.out _) (HB1.out _) (HB2.out _) hlp; have R1 := hid r1; have R2 := hid r2; have R3 := hid r3; have R4 := hid r4; have R5 := hid r5; have R6 := hid r6; clear r1 r2 r3 r4 r5 r6 hlp)
        exact ⟨⟨k + 1, by omega, by go_num, us'', R1.out, R2.out, R3.out, R4.out, R5.out, R6.out⟩, by simp [intOf]; omega⟩
    · have ek : gs.take k = gs := List.take_of_length_le (by rw [HN.out]; omega)
      rw [ek] at hA1 hL
      have HP := hid hP
      have HL := hid hL
      have HNU := hid hNU
      have HK := hid hK
      have hszW : w.heap.size + 1 < wr.heap.size := hA1.lt
      have hbig : ∀ x ∈ sndF b ua us', x ≠ w.heap.size := fun x hx => by
        have hold : x ∈ sndF b ua us ∨ w.heap.size + 2 ≤ x := by
          rcases sndF_mem hx with rfl | ⟨y, hy, rfl⟩ | ⟨i, hi, e⟩
          · exact .inl (sndF_b _ _ _)
          · exact .inl (sndF_u hy)
          · rw [hL.1] at hi
            rcases hNU i hi x e with h1 | h1
            · exact .inl (sndF_a hi h1)
            · exact .inr h1
        rcases hold with h1 | h1
        · have := HLT.out x h1
          omega
        · omega
      have HBIG := hid hbig
      clear hP hL hNU hK hbig ek
      have hone : ∀ v ∈ lkC bg gs, v.oneCell' = true := by
        intro v hv
        simp only [lkC, List.mem_map] at hv
        obtain ⟨i, -, rfl⟩ := hv
        rfl
      generalize hlk : lkC bg gs = LK at *
      have HLKl : LK.length = 32 := by rw [← hlk]; exact lkC_len _ _
      have HLK := hid hlk
      clear hlk
      obtain ⟨W9, hW9⟩ : ∃ W9, W9 = wr.setRow w.heap.size LK.toArray := ⟨_, rfl⟩
      have hst : (storeCells ⟨w.heap.size, 0, none⟩ LK 0).run Try.prog wr = .ok () W9 := by
        have := run_storeCells_at Try.prog w.heap.size 0 131 LK 0 (List.replicate 32 (Value.bool false)).toArray wr (show wr.heap[w.heap.size]? = some (.cells (List.replicate 32 (Value.bool false)).toArray 131 (0, 0)) from hA0) (by simp [HLKl]) hone
        rw [this, hW9]
        simp [HLKl]
      have HW9 := hid hW9
      have HA0 := hid hA0
      clear hW9 hA0 hone
      go_wp2_with (first | (refine wpList_load_row rfl 131 (.tmp 5) rfl (w.heap.size + 1) rfl 131 _ (0, 0) _ hA1 Try.underlying131 rfl (by rw [List.size_toArray, HLKl]; kernel_rfl) ?_))
      have hZ : At W9 w.heap.size 131 LK := by rw [HW9.out]; exact HA0.out.set
      have hk9 : Kept [w.heap.size] wr W9 := by rw [HW9.out]; exact kept_setRow _ _ _
      refine bodyPost_ret (results_cell_row (p := 4) (ty := 131) (by kernel_rfl) _ _ w.heap.size 131 _ (0, 0) _ rfl hZ Try.underlying131 rfl (by rw [List.size_toArray, HLKl]; kernel_rfl)) rfl ?_
      refine ⟨by rw [HLK.out], keptChain HK.out hk9 (fun x hx => .inr (by simp at hx; omega)), us', HP.out.kept hk9 (fun x hx => by simpa using HBIG.out x hx), HL.out, fun i hi g hg => ?_⟩
      rcases HNU.out i hi g hg with h1 | h1
      · exact .inl h1
      · exact .inr (by omega)
end Go.Proofs.Ytbjgfoiikhbonaf
