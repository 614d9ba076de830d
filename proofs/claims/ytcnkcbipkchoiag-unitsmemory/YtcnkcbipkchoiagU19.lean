import Derived.Test.YtcnkcbipkchoiagU15
namespace Go.Proofs.Ytcnkcbipkchoiag
open Go.ChangeShapes Go.WideShapes Go.ChangeAt Go.RowKit
def repErr (bg : Nat) (us : List UnP) (r : ReportM) : Int :=
  if r.next < 0 ∨ 63 < r.next then 3 else if lead sentP us < aheadN r.next bg then 3 else if r.miss.all (gapOkP bg (aheadN r.next bg) us) = true then 0 else 3
set_option maxRecDepth 100000 in
set_option maxHeartbeats 1000000 in
theorem checkReport_any {w : World} {b win bg : Nat} {ua : Option Addr} {c : Nat} {us : List UnP} (r : ReportM) (a : Option Addr) (n cc : Nat) (h : PSnd w b win bg ua c us) (hbg : bg < 64) (hl : us.length ≤ 4000) (hsz : ∀ i, i < us.length → (us.getD i .zero).text.size ≤ 1500) (hG : Gps w a r.miss) (hn : r.miss.length = n) (hm : n ≤ maxLen) :
    Calls Try.prog 96 #[.pointer (some ⟨b, 0, none⟩), .agg #[.int .i64 r.next, .slice a n cc]] w fun e w' => e = .returned (.int .i64 (repErr bg us r)) ∧ Below w.heap.size w w' := by
  obtain ⟨-, c1, c2⟩ := h.head
  have hA := at_alloc w 91 [.int .i64 r.next, .slice a n cc]
  have hk : Kept [] w (w.alloc (.cells #[.int .i64 r.next, .slice a n cc] 91)) := (Kept.refl _ w).alloc _
  have hP := h.kept hk (fun x _ => by simp)
  have hGk := hG.kept hk (fun x _ => by simp)
  have k1 := keptCellQ hk c1 (by simp)
  have x0 : (w.alloc (.cells #[.int .i64 r.next, .slice a n cc] 91)).cell? ⟨w.heap.size, 0, none⟩ = some (.int .i64 r.next) := hA.cell 0
  have x1 : (w.alloc (.cells #[.int .i64 r.next, .slice a n cc] 91)).cell? ⟨w.heap.size, 1, none⟩ = some (.slice a n cc) := hA.cell 1
  have hB : Below w.heap.size w (w.alloc (.cells #[.int .i64 r.next, .slice a n cc] 91)) := (Below.refl _ w).alloc (Nat.le_refl _) _
  have hnum := fun W => isNumber_any r.next W
  have hsz0 : (w.alloc (.cells #[.int .i64 r.next, .slice a n cc] 91)).heap.size = w.heap.size + 1 := World.size_alloc _ _
  obtain ⟨V, hV⟩ : ∃ V, V = repErr bg us r := ⟨_, rfl⟩
  rw [← hV]
  have hm' : n ≤ 9223372036854775807 := by unfold maxLen at hm; omega
  have HPk := hid hP
  have HGk := hid hGk
  have HB := hid hB
  have HN := hid hn
  have HSZ := hid hsz
  have HS0 := hid hsz0
  have HHL := hid hl
  obtain ⟨next, miss⟩ := r
  dsimp only at *
  have c1' := c1
  clear h hG hA hk c1 c2 hP hGk hB hm hsz hsz0 hn
  by_cases q1 : next < 0 ∨ 63 < next
  · rw [show decide (0 ≤ next ∧ next ≤ 63) = false from decide_eq_false (by omega)] at hnum
    have HV := hid (show V = 3 by rw [hV]; unfold repErr; rw [if_pos q1])
    clear hV q1 hl
    go_enter Try.func96, Try.ntmps96
    go_upto_region 1 with fail
    go_quiet (first | (go_at_call 124; exact Calls.quiet_of_same (hnum _)))
    go_wp2_with fail
    go_ret
    exact ⟨by rw [HV.out]; rfl, belowN HB.out _⟩
  · rw [show decide (0 ≤ next ∧ next ≤ 63) = true from decide_eq_true (by omega)] at hnum
    have hah := fun W => ahead_at (k := next) (bg := bg) W hbg (by omega) (by omega)
    have hbe : ∀ m, Calls Try.prog 130 #[.pointer (some ⟨b, 0, none⟩)] ((w.alloc (.cells #[.int .i64 next, .slice a n cc] 91)).drewN m) fun e w' => e = .returned (.int .i64 ((lead sentP us : Nat) : Int)) ∧ w' = (w.alloc (.cells #[.int .i64 next, .slice a n cc] 91)).drewN m := fun m => begun_any (HPk.out.kept ((Kept.refl [] _).drewN m) (by simp)) (by omega)
    by_cases q2 : lead sentP us < aheadN next bg
    · have HV := hid (show V = 3 by rw [hV]; unfold repErr; rw [if_neg q1, if_pos q2])
      clear hV q1 hl
      generalize lead sentP us = L at *
      generalize aheadN next bg = A at *
      go_enter Try.func96, Try.ntmps96
      go_upto_region 1 with fail
      go_quiet (first | (go_at_call 124; exact Calls.quiet_of_same (hnum _)) | (go_at_call 92; exact Calls.quiet_of_same (hah _)) | (go_at_call 130; exact Calls.quiet_of_same (hbe _)))
      go_wp2_with fail
      go_ret
      exact ⟨by rw [HV.out]; rfl, belowN HB.out _⟩
    · have hVV := hid (show V = if miss.all (gapOkP bg (aheadN next bg) us) = true then 0 else 3 by rw [hV]; unfold repErr; rw [if_neg q1, if_neg q2])
      have hAl : aheadN next bg ≤ us.length := by have := lead_le sentP us; omega
      have hcg : ∀ W, Below w.heap.size w W → PSnd W b win bg ua c us → ∀ g : GapM, Calls Try.prog 131 #[.pointer (some ⟨b, 0, none⟩), g.val, .int .i64 ((aheadN next bg : Nat) : Int)] W fun e w' => e = .returned (.int .i64 (gapErr bg (aheadN next bg) us g)) ∧ Below W.heap.size W w' := fun W _ hW g => checkGap_any g hW hbg hAl HHL.out HSZ.out
      have q2' : ¬ (lead sentP us < aheadN next bg) := q2
      clear hV q1 hl q2
      generalize lead sentP us = L at *
      generalize hAA : aheadN next bg = A at *
      go_enter Try.func96, Try.ntmps96
      go_upto_region 1 with fail
      go_quiet (first | (go_at_call 124; exact Calls.quiet_of_same (hnum _)) | (go_at_call 92; exact Calls.quiet_of_same (hah _)) | (go_at_call 130; exact Calls.quiet_of_same (hbe _)))
      go_wp2_with fail
      have HAA := hid hAA
      have hbl : b < w.heap.size := by
        have h1 := HPk.out.hd.lt
        have h2 := HB.out
        exact World.block_lt_of_cell? w ⟨b, 1, none⟩ c1'
      go_loopw [27] (fun vi wr => ∃ k : Nat, k ≤ n ∧ vi = .int .i64 k ∧ Hid (∀ j, j < k → gapOkP bg A us (miss.getD j .zero) = true) ∧ Below (w.heap.size + 1) (w.alloc (.cells #[.int .i64 next, .slice a n cc] 91)) wr) (fun vi _ => n - (intOf vi).toNat)
      case atStart => exact ⟨0, by omega, rfl, hid (fun j hj => by omega), belowN (Below.refl _ _) _⟩
      case round =>
        obtain ⟨k, hk, rfl, HJ, hb⟩ := hrel
        have hbw : Below w.heap.size w wr := HB.out.trans (hb.mono (by omega))
        by_cases hkn : k < n
        · obtain ⟨gb, go, rfl, hC⟩ := HGk.out (by intro e; have := HN.out; rw [e] at this; simp at this; omega)
          obtain ⟨e0, e1, e2⟩ := hC k (by rw [HN.out]; exact hkn)
          have hgbl : gb < w.heap.size + 1 := by have := World.block_lt_of_cell? _ _ e0; rw [HS0.out] at this; exact this
          have f0 := (World.cell?_of_block (hb.block gb hgbl)).trans e0
          have f1 := (World.cell?_of_block (hb.block gb hgbl)).trans e1
          have f2 := (World.cell?_of_block (hb.block gb hgbl)).trans e2
          have HBW := hid hbw
          have HBb := hid hb
          have y0 := (World.cell?_of_block (hb.block w.heap.size (by omega))).trans x0
          have y1 := (World.cell?_of_block (hb.block b (by omega))).trans k1
          have hszr : w.heap.size + 1 ≤ wr.heap.size := by have := hb.size; rw [HS0.out] at this; exact this
          clear hC e0 e1 e2 hb hbw
          generalize hgg : miss.getD k .zero = g at *
          have HGG := hid hgg
          clear hgg
          obtain ⟨num, frm, til⟩ := g
          dsimp only at f0 f1 f2
          go_upto_region 6 with fail
          have hkA : Kept [] wr (wr.alloc (.cells #[.int .i64 num, .int .i64 frm, .int .i64 til] 107)) := (Kept.refl _ wr).alloc _
          have hAG := at_alloc wr 107 [.int .i64 num, .int .i64 frm, .int .i64 til]
          have hszA : wr.heap.size < (wr.alloc (.cells #[.int .i64 num, .int .i64 frm, .int .i64 til] 107)).heap.size := by simp
          generalize wr.alloc (.cells #[.int .i64 num, .int .i64 frm, .int .i64 til] 107) = W1 at *
          have z0 := keptCellQ hkA y0 (by simp)
          have z1 := keptCellQ hkA y1 (by simp)
          have g0 : W1.cell? ⟨wr.heap.size, 0, none⟩ = some (.int .i64 num) := hAG.cell 0
          have g1 : W1.cell? ⟨wr.heap.size, 1, none⟩ = some (.int .i64 frm) := hAG.cell 1
          have g2 : W1.cell? ⟨wr.heap.size, 2, none⟩ = some (.int .i64 til) := hAG.cell 2
          have hcW : ∀ q, Calls Try.prog 131 #[.pointer (some ⟨b, 0, none⟩), .agg #[.int .i64 num, .int .i64 frm, .int .i64 til], .int .i64 (A : Int)] (W1.drewN q) fun e w' => e = .returned (.int .i64 (gapErr bg A us ⟨num, frm, til⟩)) ∧ Below W1.heap.size W1 w' := fun q => by
            have hP1 : PSnd (W1.drewN q) b win bg ua c us := (HPk.out.kept (T := []) (Kept.of_below (by rw [HS0.out]; exact HBb.out)) (by simp)).kept (hkA.drewN q) (by simp)
            exact (hcg _ (HBW.out.trans (Kept.below (hkA.drewN q) (HBW.out.size) (by simp))) hP1 ⟨num, frm, til⟩).mono (fun e w' h' => ⟨h'.1, (belowN (Below.refl _ W1) q).trans h'.2⟩)
          have HKA := hid hkA
          clear hkA hAG hcg y0 y1 f0 f1 f2
          generalize hER : gapErr bg A us ⟨num, frm, til⟩ = ER at *
          have HER := hid hER
          clear hER
          go_cut [7] from 28 to 44 (fun t wx => t = .int .i64 ER ∧ Below W1.heap.size W1 wx)
          case first =>
            go_region_with (first | (go_at_call 92; refine (hah _).mono ?_; rintro e w2 ⟨rfl, rfl⟩) | (go_at_call 131; refine (hcW _).mono ?_; rintro e w2 ⟨rfl, hb2⟩))
            all_goals (go_wp2; go_meet; exact ⟨rfl, hb2⟩)
          case rest =>
            obtain ⟨rfl, hbc⟩ := hcut
            have hbd := (HBb.out.trans (Kept.below HKA.out hszr (by simp))).trans (hbc.mono (by omega))
            have HBD := hid hbd
            have HBD2 := hid (HB.out.trans (hbd.mono (by omega)))
            clear hbc hbd z0 z1 g0 g1 g2 x0 x1 k1
            by_cases q5 : gapOkP bg A us ⟨num, frm, til⟩ = true
            · have e5 : ER = 0 := by rw [← HER.out]; unfold gapErr; rw [if_pos q5]
              subst e5
              go_wp2_with fail
              refine ⟨⟨k + 1, by omega, by go_num, hid (fun j hj => ?_), HBD.out⟩, by simp [intOf]; omega⟩
              rcases Nat.lt_or_ge j k with h' | h'
              · exact HJ.out j h'
              · rw [show j = k by omega, HGG.out]
                exact q5
            · have e5 : ER = 3 := by rw [← HER.out]; unfold gapErr; rw [if_neg q5]
              subst e5
              have HV := hid (show V = 3 by
                rw [hVV.out, if_neg]
                intro h'
                have := List.all_eq_true.1 h' (miss.getD k .zero) (by
                  rw [List.getD_eq_getElem?_getD, List.getElem?_eq_getElem (by rw [HN.out]; exact hkn)]
                  exact List.getElem_mem _)
                rw [HGG.out] at this
                exact q5 this)
              go_wp2_with fail
              go_ret
              exact ⟨by rw [HV.out]; rfl, HBD2.out⟩
        · have HV := hid (show V = 0 by
            rw [hVV.out, if_pos]
            refine List.all_eq_true.2 fun g hg => ?_
            obtain ⟨j, hj, rfl⟩ := List.mem_iff_getElem.1 hg
            have := HJ.out j (by rw [HN.out] at hj; omega)
            rw [List.getD_eq_getElem?_getD, List.getElem?_eq_getElem hj] at this
            exact this)
          go_wp2_with fail
          go_ret
          exact ⟨by rw [HV.out]; rfl, hbw⟩
end Go.Proofs.Ytcnkcbipkchoiag
namespace Go.Proofs.Ytcnkcbipkchoiag
open Go.ChangeShapes Go.WideShapes Go.ChangeAt Go.RowKit
theorem endLe_of {l : Sps} (h : Srt l) {e : Nat} (hi : ∀ t, inS l t → t < e) : EndLe l e := fun q hq => by
  have h1 := h.1 q hq
  have := hi (q.2 - 1) ⟨q, hq, by omega, by omega⟩
  omega
/-- Bytes of units have been lost: those of P that were sent. -/
def Lost (P : Nat → Nat → Prop) (us us' : List UnP) : Prop := us'.length = us.length ∧ ∀ i, i < us.length → (us'.getD i .zero).text = (us.getD i .zero).text ∧ (us'.getD i .zero).sent = (us.getD i .zero).sent ∧ (us'.getD i .zero).dn = (us.getD i .zero).dn ∧ Srt (us'.getD i .zero).al ∧ (∀ t, inS (us'.getD i .zero).al t ↔ inS (us.getD i .zero).al t ∨ ((us.getD i .zero).dn = false ∧ t < (us.getD i .zero).sent ∧ P i t))
/-- What is asked of units. -/
structure UsOk (us : List UnP) : Prop where
  srt : ∀ i, i < us.length → Srt (us.getD i .zero).al
  sent : ∀ i, i < us.length → (us.getD i .zero).sent ≤ (us.getD i .zero).text.size
  size : ∀ i, i < us.length → (us.getD i .zero).text.size ≤ 1500
  inn : ∀ i, i < us.length → ∀ t, inS (us.getD i .zero).al t → t < (us.getD i .zero).sent
theorem Lost.refl {us : List UnP} (h : UsOk us) : Lost (fun _ _ => False) us us := ⟨rfl, fun i hi => ⟨rfl, rfl, rfl, h.srt i hi, fun _t => ⟨.inl, fun h => h.elim id fun h => h.2.2.elim⟩⟩⟩
theorem Lost.ok {P : Nat → Nat → Prop} {us us' : List UnP} (h : Lost P us us') (hu : UsOk us) : UsOk us' := by
  refine ⟨fun i hi => ?_, fun i hi => ?_, fun i hi => ?_, fun i hi t ht => ?_⟩
  all_goals
    rw [h.1] at hi
    obtain ⟨e1, e2, e3, e4, e5⟩ := h.2 i hi
  · exact e4
  · rw [e1, e2]; exact hu.sent i hi
  · rw [e1]; exact hu.size i hi
  · rw [e2]
    rcases (e5 t).1 ht with h' | h'
    · exact hu.inn i hi t h'
    · exact h'.2.1
/-- One more unit has lost some. -/
theorem Lost.step {P : Nat → Nat → Prop} {us us' : List UnP} {i a z : Nat} {l' : Sps} {v' : Value} (h : Lost P us us') (hi : i < us.length) (hl : Srt l') (hm : ∀ t, inS l' t ↔ inS (us'.getD i .zero).al t ∨ ((us'.getD i .zero).dn = false ∧ a ≤ t ∧ t < min z (us'.getD i .zero).sent)) :
    Lost (fun j t => P j t ∨ (j = i ∧ a ≤ t ∧ t < z)) us (us'.set i { us'.getD i .zero with av := v', al := l' }) := by
  refine ⟨by rw [List.length_set]; exact h.1, fun j hj => ?_⟩
  obtain ⟨e1, e2, e3, e4, e5⟩ := h.2 j hj
  by_cases hji : j = i
  · subst hji
    rw [getD_setS (by rw [h.1]; exact hj)]
    refine ⟨e1, e2, e3, hl, fun t => ?_⟩
    show inS l' t ↔ _
    rw [hm t, e5 t, e2, e3]
    constructor
    · rintro ((h1 | h1) | h1)
      · exact .inl h1
      · exact .inr ⟨h1.1, h1.2.1, .inl h1.2.2⟩
      · exact .inr ⟨h1.1, by omega, .inr ⟨rfl, h1.2.1, by omega⟩⟩
    · rintro (h1 | ⟨h1, h2, h3 | ⟨_, h3, h4⟩⟩)
      · exact .inl (.inl h1)
      · exact .inl (.inr ⟨h1, h2, h3⟩)
      · exact .inr ⟨h1, h3, by omega⟩
  · rw [getD_setN (fun e => hji e.symm)]
    refine ⟨e1, e2, e3, e4, fun t => ?_⟩
    rw [e5 t]
    constructor
    · rintro (h1 | h1)
      · exact .inl h1
      · exact .inr ⟨h1.1, h1.2.1, .inl h1.2.2⟩
    · rintro (h1 | ⟨h1, h2, h3 | h3⟩)
      · exact .inl h1
      · exact .inr ⟨h1, h2, h3⟩
      · exact absurd h3.1 hji
theorem Lost.congr {P Q : Nat → Nat → Prop} {us us' : List UnP} (h : Lost P us us') (he : ∀ i, i < us.length → ∀ t, t < (us.getD i .zero).sent → (P i t ↔ Q i t)) : Lost Q us us' := by
  refine ⟨h.1, fun i hi => ?_⟩
  obtain ⟨e1, e2, e3, e4, e5⟩ := h.2 i hi
  refine ⟨e1, e2, e3, e4, fun t => ?_⟩
  rw [e5 t]
  constructor
  · rintro (h1 | ⟨h1, h2, h3⟩)
    · exact .inl h1
    · exact .inr ⟨h1, h2, (he i hi t h2).1 h3⟩
  · rintro (h1 | ⟨h1, h2, h3⟩)
    · exact .inl h1
    · exact .inr ⟨h1, h2, (he i hi t h2).2 h3⟩
/-- Blocks of changed units are those of the old ones, or new. -/
def NewU (B : Nat) (us us' : List UnP) : Prop := ∀ i, i < us.length → ∀ g, (us'.getD i .zero).av.ownBlock = some g → (us.getD i .zero).av.ownBlock = some g ∨ B ≤ g
theorem NewU.refl (B : Nat) (us : List UnP) : NewU B us us := fun _ _ _ h => .inl h
theorem NewU.set {B B' : Nat} {us us' : List UnP} {i : Nat} {x' : UnP} (h : NewU B us us') (hl : us'.length = us.length) (hB : B ≤ B') (hi : i < us.length) (hn : ∀ g, x'.av.ownBlock = some g → (us'.getD i .zero).av.ownBlock = some g ∨ B' ≤ g) : NewU B us (us'.set i x') := fun j hj g hg => by
  by_cases hji : j = i
  · subst hji
    rw [getD_setS (by omega)] at hg
    rcases hn g hg with h1 | h1
    · exact h j hj g h1
    · exact .inr (by omega)
  · rw [getD_setN (fun e => hji e.symm)] at hg
    exact h j hj g hg
end Go.Proofs.Ytcnkcbipkchoiag
