import Derived.Test.YtbjgfoiikhbonafK37
import Derived.Test.YtbjgfoiikhbonafK33
import Derived.Test.YtbjgfoiikhbonafK31
set_option linter.unusedVariables false
set_option linter.unusedSimpArgs false
namespace Go.Proofs.Ytbjgfoiikhbonaf
open Go.ChangeShapes Go.WideShapes Go.ChangeAt Go.RowKit
theorem SndM.who2 {m : OutM} {us : List UnP} (h : SndM m us) : m.who 2 = m.beg + lead noneP us := by
  have hn := h.n_eq
  have hl := lead_le noneP us
  unfold OutM.who OutM.edge
  rw [if_pos rfl]
  refine firstIn_eq (by omega) (by omega) (fun j h1 h2 => ?_) (fun hlt => ?_)
  · have := lead_in (p := noneP) (us := us) (k := j - m.beg) (by omega)
    have hu := (h.un (j - m.beg) (by omega)).can2
    rw [show m.beg + (j - m.beg) = j by omega, this] at hu
    exact hu
  · have := lead_at (p := noneP) (us := us) (by omega)
    rw [(h.un _ (by omega)).can2, this]
    rfl
theorem SndM.who0 {m : OutM} {us : List UnP} {i : Nat} (h : SndM m us) (hi : i ≤ min m.win us.length) (hno : ∀ j, j < i → openP (us.getD j .zero) = false) (hyes : i < min m.win us.length → openP (us.getD i .zero) = true) : m.who 0 = m.beg + i ∧ m.edge 0 = m.beg + min m.win us.length := by
  have hn := h.n_eq
  have he : m.edge 0 = m.beg + min m.win us.length := by
    unfold OutM.edge
    rw [if_neg (by decide)]
    omega
  refine ⟨?_, he⟩
  unfold OutM.who
  rw [he]
  refine firstIn_eq (by omega) (by omega) (fun j h1 h2 => ?_) (fun hlt => ?_)
  · have hu := (h.un (j - m.beg) (by omega)).can0
    rw [show m.beg + (j - m.beg) = j by omega, hno (j - m.beg) (by omega)] at hu
    exact hu
  · rw [(h.un i (by omega)).can0]
    exact hyes (by omega)
/-- Units are changed at one place. -/
theorem SndM.set {m m' : OutM} {us : List UnP} {i a b : Nat} {x' : UnP} (h : SndM m us) (hi : i < us.length) (hm : m' = m.sent (m.beg + i) a b) (hx : UnR m' (m.beg + i) x') (hd : x'.dn = (us.getD i .zero).dn) (hs : (us.getD i .zero).sent ≤ x'.sent) (hw : 0 < x'.sent → i < m.win ∧ ∀ j, j < i → 0 < (us.getD j .zero).sent) : SndM m' (us.set i x') := by
  subst hm
  have hn := h.n_eq
  refine ⟨h.w1, h.w2, h.bn, by rw [List.length_set]; exact h.len, fun j hj => ?_, h.old, fun u hu => ?_, fun j hj hs' => ?_, fun j hj hd' => ?_, ?_⟩
  · rw [List.length_set] at hj
    by_cases e : j = i
    · subst e; rw [getD_setS hj]; exact hx
    · rw [getD_setN (fun e' => e e'.symm)]
      exact (h.un j hj).other (by show m.beg + j ≠ m.beg + i; omega)
  · have hu' : m.n ≤ u := hu
    have hf := h.fresh u hu'
    refine ⟨hf.1, fun t => ?_⟩
    show (if u = m.beg + i ∧ a ≤ t ∧ t < b then 1 else m.mark u t) = 0
    rw [if_neg (fun h => by omega)]
    exact hf.2 t
  · rw [List.length_set] at hj
    have key : ∀ k, 0 < (us.getD k .zero).sent → 0 < ((us.set i x').getD k .zero).sent := fun k hk => by
      by_cases e : k = i
      · subst e; rw [getD_setS hi]; omega
      · rw [getD_setN (fun e' => e e'.symm)]; exact hk
    by_cases e : j = i
    · subst e
      rw [getD_setS hj] at hs'
      exact ⟨(hw hs').1, fun k hk => key k ((hw hs').2 k hk)⟩
    · rw [getD_setN (fun e' => e e'.symm)] at hs'
      exact ⟨(h.pre j hj hs').1, fun k hk => key k ((h.pre j hj hs').2 k hk)⟩
  · rw [List.length_set] at hj
    by_cases e : j = i
    · subst e
      rw [getD_setS hj] at hd' ⊢
      rw [hd] at hd'
      have := h.dsn j hj hd'
      omega
    · rw [getD_setN (fun e' => e e'.symm)] at hd' ⊢
      exact h.dsn j hj hd'
  · have : waitN (us.set i x') = waitN us := by
      rw [waitN_range, waitN_range, List.length_set]
      congr 1
      refine List.filter_congr fun j _ => ?_
      by_cases e : j = i
      · subst e; rw [getD_setS hi, hd]
      · rw [getD_setN (fun e' => e e'.symm)]
    rw [this]
    exact h.few
theorem sndF_set {b i : Nat} {ua : Option Addr} {us : List UnP} {x' : UnP} {B : Nat} (hi : i < us.length) (hn : ∀ g, x'.av.ownBlock = some g → (us.getD i .zero).av.ownBlock = some g) : Grown B (sndF b ua us) (sndF b ua (us.set i x')) := fun x hx => by
  rcases sndF_mem hx with rfl | ⟨y, hy, rfl⟩ | ⟨j, hj, e⟩
  · exact .inl (sndF_b _ _ _)
  · exact .inl (sndF_u hy)
  · rw [List.length_set] at hj
    by_cases e' : j = i
    · subst e'
      rw [getD_setS hj] at e
      exact .inl (sndF_a hj (hn x e))
    · rw [getD_setN (fun e'' => e' e''.symm)] at e
      exact .inl (sndF_a hj e)
theorem mod_add64 (a i : Nat) : (a % 64 + i) % 64 = (a + i) % 64 := by omega
theorem snd_next {w : World} {p : Addr} {F : List Nat} {m : OutM} (size : Int) (h : Snd w p F m) : Calls Try.prog 16 #[.pointer (some p), .int .i64 size] w fun e w' => e = .returned (.tuple #[(m.next size).p.val, .int .i64 (m.next size).err]) ∧ Kept F w w' ∧ ∃ F', Snd w' p F' (m.next size).m ∧ Grown w.heap.size F F' := by
  obtain ⟨b, ua, c, us, rfl, rfl, h1, h2⟩ := h
  have hsh := h2.short
  have hn := h2.n_eq
  have hstay : ∀ w', Below w.heap.size w w' → Kept (sndF b ua us) w w' ∧ ∃ F', Snd w' ⟨b, 0, none⟩ F' m ∧ Grown w.heap.size (sndF b ua us) F' := fun w' hb => ⟨Kept.of_below hb, sndF b ua us, ⟨b, ua, c, us, rfl, rfl, h1.kept (Kept.of_below (S := []) hb) (by simp), h2⟩, fun x hx => .inl hx⟩
  by_cases hsz : size < 1 ∨ 1500 < size
  · have hm : m.next size = ⟨m, .zero, 1⟩ := by unfold OutM.next; rw [if_pos hsz]
    rw [hm]
    refine (snext_bad hsz).mono ?_
    rintro e w' ⟨rfl, hb⟩
    exact ⟨rfl, hstay w' hb⟩
  · obtain ⟨k, rfl⟩ : ∃ k : Nat, size = (k : Int) := ⟨size.toNat, by omega⟩
    have hk1 : 1 ≤ k := by omega
    have hk2 : k ≤ 1500 := by omega
    have hw2 := h2.who2
    have he2 : m.edge 2 = m.n := by unfold OutM.edge; rw [if_pos rfl]
    by_cases hl : lead noneP us < us.length
    · have hm : m.next (k : Int) = m.send 2 (m.beg + lead noneP us) k := by
        unfold OutM.next
        rw [if_neg hsz, if_pos (by rw [hw2, he2]; omega), hw2]
        rfl
      have hu := h2.un _ hl
      have hna := lead_at (p := noneP) (us := us) hl
      obtain ⟨q, r, hal⟩ : ∃ q r, (us.getD (lead noneP us) .zero).al = q :: r := by
        cases e : (us.getD (lead noneP us) .zero).al with
        | nil =>
          have hna' : (us.getD (lead noneP us) .zero).al.isEmpty = false := hna
          rw [e] at hna'
          cases hna'
        | cons q r => exact ⟨q, r, rfl⟩
      obtain ⟨pp, qq⟩ := q
      rw [hm]
      unfold OutM.send
      rw [hu.hit2 hal, hu.cut2 hal hk1]
      refine (snext_again h1 (Nat.mod_lt _ (by omega)) (by omega) h2.usOk hk1 hk2 rfl hl hal).mono ?_
      rintro e w' ⟨rfl, hk, v', hp, hv⟩
      rw [getD_setS hl, List.set_set] at hp
      refine ⟨?_, hk, _, ⟨b, ua, c, _, rfl, rfl, hp, ?_⟩, sndF_set hl hv⟩
      · unfold OutM.piece pieceV PieceM.val
        rw [mod_add64, hu.sz, hu.tx]
      · exact h2.set hl rfl (hu.again hal hk1) rfl (Nat.le_refl _) (fun h => h2.pre _ hl h)
    · have hall : ∀ j, j < us.length → (us.getD j .zero).al = [] := fun j hj => by
        have := lead_in (p := noneP) (us := us) (k := j) (by omega)
        unfold noneP at this
        exact List.isEmpty_iff.1 this
      by_cases hex : ∃ i, i < min m.win us.length ∧ openP (us.getD i .zero) = true ∧ ∀ j, j < i → openP (us.getD j .zero) = false
      · obtain ⟨i, hi, hyes, hno⟩ := hex
        obtain ⟨hw0, he0⟩ := h2.who0 (i := i) (by omega) hno (fun _ => hyes)
        have hil : i < us.length := by omega
        have hu := h2.un i hil
        have hm : m.next (k : Int) = m.send 0 (m.beg + i) k := by
          unfold OutM.next
          rw [if_neg hsz, if_neg (by rw [hw2, he2]; omega), if_pos (by rw [hw0, he0]; omega), hw0]
          rfl
        rw [hm]
        unfold OutM.send
        rw [hu.hit0, hu.cut0]
        refine (snext_new h1 (Nat.mod_lt _ (by omega)) (by omega) h2.usOk hk1 hk2 h2.w2 hall hi hno hyes).mono ?_
        rintro e w' ⟨rfl, hk, hp⟩
        refine ⟨?_, hk, _, ⟨b, ua, c, _, rfl, rfl, hp, ?_⟩, sndF_set hil (fun g hg => hg)⟩
        · unfold OutM.piece pieceV PieceM.val
          rw [mod_add64, hu.sz, hu.tx]
        · refine h2.set hil rfl (hu.first (hall i hil) hk1) rfl (by show _ ≤ min _ _; have := hu.sn; omega) (fun _ => ⟨by omega, fun j hj => ?_⟩)
          have h3 := hno j hj
          unfold openP at h3
          have huj := h2.un j (by omega)
          cases hd : (us.getD j .zero).dn with
          | true => exact h2.dsn j (by omega) hd
          | false =>
            rw [hd, Bool.not_false, Bool.true_and, decide_eq_false_iff_not] at h3
            have := huj.lo
            omega
      · have hno : ∀ j, j < min m.win us.length → openP (us.getD j .zero) = false := by
          intro j
          induction j using Nat.strongRecOn with
          | ind j ih =>
            intro hj
            cases ho : openP (us.getD j .zero) with
            | false => rfl
            | true => exact absurd ⟨j, hj, ho, fun k hk => ih k hk (by omega)⟩ hex
        obtain ⟨hw0, he0⟩ := h2.who0 (i := min m.win us.length) (Nat.le_refl _) hno (fun h => absurd h (Nat.lt_irrefl _))
        have hm : m.next (k : Int) = ⟨m, .zero, 6⟩ := by
          unfold OutM.next
          rw [if_neg hsz, if_neg (by rw [hw2, he2]; omega), if_neg (by rw [hw0, he0]; omega)]
        rw [hm]
        refine (snext_none h1 (by omega) h2.usOk hk1 hk2 hall hno).mono ?_
        rintro e w' ⟨rfl, hb⟩
        exact ⟨rfl, hstay w' hb⟩
end Go.Proofs.Ytbjgfoiikhbonaf
namespace Go.Proofs.Ytbjgfoiikhbonaf
open Go.ChangeShapes Go.WideShapes Go.ChangeAt Go.RowKit
theorem aheadN_mod (k : Int) (b : Nat) : aheadN k (b % 64) = aheadN k b := by
  unfold aheadN
  rw [Nat.mod_mod]
theorem SndM.spoken {m : OutM} {us : List UnP} (h : SndM m us) (d : Nat) : m.spoken d = decide (d ≤ lead sentP us) := by
  have hn := h.n_eq
  have hl := lead_le sentP us
  have hz : ∀ i, i < us.length → (m.mark (m.beg + i) 0 ≠ 0 ↔ 0 < (us.getD i .zero).sent) := fun i hi => by
    have hu := h.un i hi
    have := (hu.mks 0 hu.lo).1
    constructor
    · intro h1
      rcases Nat.eq_zero_or_pos (us.getD i .zero).sent with e | e
      · exact absurd (this.2 (by omega)) h1
      · exact e
    · intro h1 e
      have := this.1 e
      omega
  by_cases hd : d ≤ lead sentP us
  · rw [decide_eq_true hd]
    refine List.all_eq_true.2 fun i hi => ?_
    have hi := List.mem_range.1 hi
    have h1 := lead_in (p := sentP) (us := us) (k := i) (by omega)
    rw [Bool.and_eq_true, decide_eq_true_eq, bne_iff_ne]
    exact ⟨by omega, (hz i (by omega)).2 (of_decide_eq_true h1)⟩
  · rw [decide_eq_false hd]
    refine Bool.eq_false_iff.2 fun hall => ?_
    have h1 := List.all_eq_true.1 hall (lead sentP us) (List.mem_range.2 (by omega))
    rw [Bool.and_eq_true, decide_eq_true_eq, bne_iff_ne] at h1
    have h2 := lead_at (p := sentP) (us := us) (by omega)
    have h3 := (hz _ (by omega)).1 h1.2
    have h4 : sentP (us.getD (lead sentP us) .zero) = true := decide_eq_true h3
    rw [h2] at h4
    cases h4
theorem SndM.gapOk {m : OutM} {us : List UnP} (h : SndM m us) {d : Nat} (hd : d ≤ us.length) (g : GapM) : gapOkP (m.beg % 64) d us g = m.gapOk d g := by
  unfold gapOkP OutM.gapOk
  rw [aheadN_mod]
  by_cases h1 : aheadN g.num m.beg < d
  · rw [(h.un _ (by omega)).sz]
  · rw [decide_eq_false h1]
    simp
theorem SndM.repErr {m : OutM} {us : List UnP} (h : SndM m us) (r : ReportM) : (m.take r).err = repErr (m.beg % 64) us r ∧ (Go.Proofs.Ytbjgfoiikhbonaf.repErr (m.beg % 64) us r ≠ 0 → (m.take r).m = m) ∧ (Go.Proofs.Ytbjgfoiikhbonaf.repErr (m.beg % 64) us r = 0 → (m.take r).m = m.taken (aheadN r.next m.beg) r.miss) := by
  unfold OutM.take Go.Proofs.Ytbjgfoiikhbonaf.repErr
  rw [aheadN_mod, h.spoken]
  by_cases q1 : r.next < 0 ∨ 63 < r.next
  · rw [if_pos q1, if_pos q1]
    exact ⟨rfl, fun _ => rfl, fun h => absurd h (by decide)⟩
  · rw [if_neg q1, if_neg q1]
    by_cases q2 : lead sentP us < aheadN r.next m.beg
    · rw [if_pos q2, decide_eq_false (by omega), if_pos rfl]
      exact ⟨rfl, fun _ => rfl, fun h => absurd h (by decide)⟩
    · rw [if_neg q2, decide_eq_true (by omega), if_neg (by simp)]
      have hd : aheadN r.next m.beg ≤ us.length := by have := lead_le sentP us; omega
      have hall : r.miss.all (gapOkP (m.beg % 64) (aheadN r.next m.beg) us) = r.miss.all (m.gapOk (aheadN r.next m.beg)) := by
        congr 1
        funext g
        exact h.gapOk hd g
      rw [hall]
      by_cases q3 : r.miss.all (m.gapOk (aheadN r.next m.beg)) = true
      · rw [if_pos q3, if_neg (by rw [q3]; simp)]
        exact ⟨rfl, fun h => absurd rfl h, fun _ => rfl⟩
      · rw [if_neg q3, if_pos (by simpa using q3)]
        exact ⟨rfl, fun _ => rfl, fun h => absurd h (by decide)⟩
end Go.Proofs.Ytbjgfoiikhbonaf
namespace Go.Proofs.Ytbjgfoiikhbonaf
open Go.ChangeShapes Go.WideShapes Go.ChangeAt Go.RowKit
theorem hasGap_lk (beg : Nat) (gs : List GapM) (i : Nat) : hasGap beg gs (beg + i) = lkOf (beg % 64) gs i := by
  unfold hasGap lkOf
  congr 1
  funext g
  unfold GapM.of
  rw [aheadN_mod]
  by_cases e : aheadN g.num beg = i
  · simp [e]
  · rw [beq_eq_false_iff_ne.2 e, beq_eq_false_iff_ne]
    omega
theorem inGap_P (beg : Nat) (gs : List GapM) (i t : Nat) : inGap beg gs (beg + i) t = true ↔ gapP (beg % 64) gs i t := by
  unfold inGap gapP
  rw [List.any_eq_true]
  constructor
  · rintro ⟨g, hg, h⟩
    rw [Bool.and_eq_true] at h
    have h1 := h.1
    unfold GapM.of at h1
    rw [beq_iff_eq] at h1
    exact ⟨g, hg, by rw [aheadN_mod]; omega, h.2⟩
  · rintro ⟨g, hg, h1, h2⟩
    rw [aheadN_mod] at h1
    refine ⟨g, hg, ?_⟩
    rw [Bool.and_eq_true]
    refine ⟨?_, h2⟩
    unfold GapM.of
    rw [beq_iff_eq]
    omega
theorem nil_of_none {l : Sps} (h : Srt l) (hn : ∀ t, ¬ inS l t) : l = [] := by
  cases l with
  | nil => rfl
  | cons q l => exact absurd ⟨q, List.mem_cons_self, Nat.le_refl _, h.head.1⟩ (hn q.1)
theorem UnR.taken {m : OutM} {d i : Nat} {gs : List GapM} {x x' : UnP} (h : UnR m (m.beg + i) x) (ht : TkR d (lkOf (m.beg % 64) gs) (gapP (m.beg % 64) gs) i x x') : UnR (m.taken d gs) (m.beg + i) x' := by
  obtain ⟨e1, e2, e3, e4, e5, e6⟩ := ht
  have hmark : ∀ t, (m.taken d gs).mark (m.beg + i) t = m.mark2 d gs (m.beg + i) t := fun _ => rfl
  have hm2 : ∀ t, m.mark2 d gs (m.beg + i) t = if i < d then (if lkOf (m.beg % 64) gs i = true then (if inGap m.beg gs (m.beg + i) t = true ∧ m.mark (m.beg + i) t = 1 ∧ m.done (m.beg + i) = false then 2 else m.mark (m.beg + i) t) else (if m.mark (m.beg + i) t = 2 then 1 else m.mark (m.beg + i) t)) else (if m.mark (m.beg + i) t = 1 ∧ m.done (m.beg + i) = false then 2 else m.mark (m.beg + i) t) := fun t => by
    unfold OutM.mark2
    rw [if_neg (by omega), hasGap_lk]
    by_cases hd : i < d
    · rw [if_pos (by omega), if_pos hd]
    · rw [if_neg (by omega), if_neg hd]
  have hsz : x'.text.size = x.text.size := by rw [e1]
  refine ⟨by rw [e1]; exact h.tx, ?_, by rw [e1]; exact h.lo, by rw [e1]; exact h.hi, by rw [e1, e2]; exact h.sn, fun t ht => ?_, e4, fun t => ?_, fun hd => ?_⟩
  · rw [e3, h.dn]
    show _ = m.done2 d gs (m.beg + i)
    unfold OutM.done2
    rw [hasGap_lk]
    congr 2
    by_cases hd : i < d
    · rw [decide_eq_true hd, decide_eq_true (by omega)]
    · rw [decide_eq_false hd, decide_eq_false (by omega)]
  · rw [hsz] at ht
    rw [hmark t, hm2 t, e2]
    have hk := h.mks t ht
    refine ⟨?_, ?_⟩
    · rw [← hk.1]
      repeat' split
      all_goals omega
    · repeat' split
      all_goals omega
  · rw [e6 t, hmark t, hm2 t, hsz, h.ag t, h.dn]
    have hst : t < x.text.size → (t < x.sent ↔ m.mark (m.beg + i) t ≠ 0) := fun ht => by
      have hk := (h.mks t ht).1
      constructor
      · intro h1 h2
        have := hk.1 h2
        omega
      · intro h1
        rcases Nat.lt_or_ge t x.sent with h2 | h2
        · exact h2
        · exact absurd (hk.2 h2) h1
    have hsn := h.sn
    by_cases ht : t < x.text.size
    · have hk2 := (h.mks t ht).2
      have hs := hst ht
      by_cases hd : i < d
      · rw [if_pos hd, if_pos hd]
        by_cases hl : lkOf (m.beg % 64) gs i = true
        · rw [if_pos hl, if_pos hl, ← inGap_P, hs]
          by_cases hc : inGap m.beg gs (m.beg + i) t = true ∧ m.mark (m.beg + i) t = 1 ∧ m.done (m.beg + i) = false
          · rw [if_pos hc]
            exact ⟨fun _ => ⟨ht, rfl⟩, fun _ => .inr ⟨hc.2.2, by omega, hc.1⟩⟩
          · rw [if_neg hc]
            constructor
            · rintro (h1 | ⟨h1, h2, h3⟩)
              · exact h1
              · refine ⟨ht, ?_⟩
                rcases Nat.lt_or_ge (m.mark (m.beg + i) t) 2 with h4 | h4
                · exact absurd ⟨h3, by omega, h1⟩ hc
                · omega
            · exact .inl
        · rw [if_neg hl, if_neg hl]
          refine ⟨fun h => h.elim, fun h => ?_⟩
          have := h.2
          split at this
          · omega
          · omega
      · rw [if_neg hd, if_neg hd, hs]
        by_cases hc : m.mark (m.beg + i) t = 1 ∧ m.done (m.beg + i) = false
        · rw [if_pos hc]
          exact ⟨fun _ => ⟨ht, rfl⟩, fun _ => .inr ⟨hc.2, by omega⟩⟩
        · rw [if_neg hc]
          constructor
          · rintro (h1 | ⟨h1, h2⟩)
            · exact h1
            · refine ⟨ht, ?_⟩
              rcases Nat.lt_or_ge (m.mark (m.beg + i) t) 2 with h4 | h4
              · exact absurd ⟨by omega, h1⟩ hc
              · omega
          · exact .inl
    · constructor
      · intro h1
        exfalso
        split at h1
        · split at h1
          · rcases h1 with h1 | h1
            · exact ht h1.1
            · omega
          · exact h1
        · rcases h1 with h1 | h1
          · exact ht h1.1
          · omega
      · intro h1
        exact absurd h1.1 ht
  · cases hx : x.dn with
    | false => exact e5 hd hx
    | true =>
      have hal := h.dal hx
      refine nil_of_none e4 fun t ht => ?_
      have := (e6 t).1 ht
      rw [hal, hx] at this
      split at this
      · split at this
        · rcases this with h1 | h1
          · exact inS_nil t h1
          · cases h1.1
        · exact this
      · rcases this with h1 | h1
        · exact inS_nil t h1
        · cases h1.1
end Go.Proofs.Ytbjgfoiikhbonaf
namespace Go.Proofs.Ytbjgfoiikhbonaf
open Go.ChangeShapes Go.WideShapes Go.ChangeAt Go.RowKit
theorem waitN_le_drop (us : List UnP) (k : Nat) : waitN (us.drop k) ≤ waitN us := by
  unfold waitN
  exact (List.Sublist.filter _ (List.drop_sublist k us)).length_le
theorem waitN_mono {us us' : List UnP} (hl : us'.length = us.length) (h : ∀ i, i < us.length → (us.getD i .zero).dn = true → (us'.getD i .zero).dn = true) : waitN us' ≤ waitN us := by
  rw [waitN_range, waitN_range, hl]
  have key : ∀ k, k ≤ us.length → ((List.range k).filter fun i => !(us'.getD i .zero).dn).length ≤ ((List.range k).filter fun i => !(us.getD i .zero).dn).length := by
    intro k
    induction k with
    | zero => intro _; simp
    | succ k ih =>
      intro hk
      have := ih (by omega)
      rw [List.range_succ, List.filter_append, List.filter_append, List.length_append, List.length_append]
      have h1 := h k (by omega)
      have : ([k].filter fun i => !(us'.getD i .zero).dn).length ≤ ([k].filter fun i => !(us.getD i .zero).dn).length := by
        simp only [List.filter_cons, List.filter_nil]
        cases h2 : (us.getD k .zero).dn with
        | true => rw [h1 h2]; simp
        | false => cases (us'.getD k .zero).dn <;> simp
      omega
  exact key _ (Nat.le_refl _)
theorem SndM.taken {m : OutM} {us us' : List UnP} {d : Nat} {gs : List GapM} (h : SndM m us) (hd : d ≤ lead sentP us) (ht : TakeRel d (lkOf (m.beg % 64) gs) (gapP (m.beg % 64) gs) us us') : SndM (m.taken d gs) (us'.drop (lead (·.dn) us')) ∧ (m.taken d gs).beg = m.beg + lead (·.dn) us' := by
  have hn := h.n_eq
  have hll := lead_le (·.dn) us'
  have hlen := ht.1
  have hdl : d ≤ us.length := Nat.le_trans hd (lead_le _ _)
  have hu : ∀ i, i < us.length → UnR (m.taken d gs) (m.beg + i) (us'.getD i .zero) := fun i hi => (h.un i hi).taken (ht.2 i hi)
  have hbeg : (m.taken d gs).beg = m.beg + lead (·.dn) us' := by
    show firstIn (fun u => !m.done2 d gs u) m.beg m.n = _
    refine firstIn_eq (by omega) (by omega) (fun j h1 h2 => ?_) (fun hlt => ?_)
    · have h3 := lead_in (p := (·.dn)) (us := us') (k := j - m.beg) (by omega)
      have h4 := (hu (j - m.beg) (by omega)).dn
      rw [h3, show m.beg + (j - m.beg) = j by omega] at h4
      have h5 : m.done2 d gs j = true := h4.symm
      rw [h5]
      rfl
    · have h3 := lead_at (p := (·.dn)) (us := us') (by omega)
      have h4 := (hu (lead (·.dn) us') (by omega)).dn
      rw [h3] at h4
      have h5 : m.done2 d gs (m.beg + lead (·.dn) us') = false := h4.symm
      rw [h5]
      rfl
  have hnn : (m.taken d gs).n = m.n := rfl
  refine ⟨⟨h.w1, h.w2, by rw [hbeg, hnn]; omega, by rw [List.length_drop, hbeg, hnn]; omega, fun i hi => ?_, fun u hu' => ?_, fun u hu' => ?_, fun i hi hs => ?_, fun i hi hd' => ?_, ?_⟩, hbeg⟩
  · rw [List.length_drop] at hi
    rw [getD_dropU, hbeg, Nat.add_assoc]
    exact hu _ (by omega)
  · rw [hbeg] at hu'
    show m.done2 d gs u = true
    by_cases e : u < m.beg
    · unfold OutM.done2
      rw [h.old u e]
      rfl
    · have h3 := lead_in (p := (·.dn)) (us := us') (k := u - m.beg) (by omega)
      have h4 := (hu (u - m.beg) (by omega)).dn
      rw [h3, show m.beg + (u - m.beg) = u by omega] at h4
      exact h4.symm
  · have hu'' : m.n ≤ u := hu'
    have hf := h.fresh u hu''
    refine ⟨?_, fun t => ?_⟩
    · show m.done2 d gs u = false
      unfold OutM.done2
      rw [hf.1, decide_eq_false (by omega)]
      rfl
    · show m.mark2 d gs u t = 0
      unfold OutM.mark2
      rw [if_neg (by omega), if_neg (by omega), hf.2 t]
      rw [if_neg (by omega)]
  · rw [List.length_drop] at hi
    rw [getD_dropU, (ht.2 _ (by omega)).2.1] at hs
    obtain ⟨q1, q2⟩ := h.pre _ (by omega) hs
    refine ⟨by show i < m.win; omega, fun j hj => ?_⟩
    rw [getD_dropU, (ht.2 _ (by omega)).2.1]
    exact q2 _ (by omega)
  · rw [List.length_drop] at hi
    rw [getD_dropU] at hd' ⊢
    have hr := ht.2 (lead (·.dn) us' + i) (by omega)
    rw [hr.2.1]
    rw [hr.2.2.1] at hd'
    cases hx : (us.getD (lead (·.dn) us' + i) .zero).dn with
    | true => exact h.dsn _ (by omega) hx
    | false =>
      rw [hx, Bool.false_or, Bool.and_eq_true, decide_eq_true_eq] at hd'
      have := lead_in (p := sentP) (us := us) (k := lead (·.dn) us' + i) (by omega)
      exact of_decide_eq_true this
  · have h1 := waitN_le_drop us' (lead (·.dn) us')
    have h2 := waitN_mono hlen (fun i hi hx => by rw [(ht.2 i hi).2.2.1, hx]; rfl)
    have := h.few
    omega
theorem SndM.lead32 {m : OutM} {us : List UnP} (h : SndM m us) : lead sentP us ≤ 32 := by
  rcases Nat.eq_zero_or_pos (lead sentP us) with e | e
  · omega
  · have hl := lead_le sentP us
    have h1 := lead_in (p := sentP) (us := us) (k := lead sentP us - 1) (by omega)
    have := (h.pre _ (by omega) (of_decide_eq_true h1)).1
    have := h.w2
    omega
theorem snd_take {w : World} {p : Addr} {F : List Nat} {m : OutM} (r : ReportM) (a : Option Addr) (n c : Nat) (h : Snd w p F m) (hG : Gps w a r.miss) (hNI : r.miss ≠ [] → NotIn F a) (hn : r.miss.length = n) (hm : n ≤ maxLen) : Calls Try.prog 22 #[.pointer (some p), .agg #[.int .i64 r.next, .slice a n c]] w fun e w' => e = .returned (.int .i64 (m.take r).err) ∧ Kept F w w' ∧ ∃ F', Snd w' p F' (m.take r).m ∧ Grown w.heap.size F F' := by
  obtain ⟨b, ua, cc, us, rfl, rfl, h1, h2⟩ := h
  have hsh := h2.short
  obtain ⟨r1, r2, r3⟩ := h2.repErr r
  rw [r1]
  by_cases he : repErr (m.beg % 64) us r = 0
  · rw [r3 he]
    have hlead : aheadN r.next m.beg ≤ lead sentP us := by
      unfold repErr at he
      rw [aheadN_mod] at he
      split at he
      · simp at he
      · split at he
        · simp at he
        · omega
    have h32 : aheadN r.next (m.beg % 64) ≤ 32 := by rw [aheadN_mod]; have := h2.lead32; omega
    refine (stake_good r a n c h1 (Nat.mod_lt _ (by omega)) (by omega) h2.usOk hG hNI hn hm he h32).mono ?_
    rintro e w' ⟨rfl, hk, us', ht, hN, hp⟩
    rw [aheadN_mod] at ht
    obtain ⟨q1, q2⟩ := h2.taken hlead ht
    refine ⟨by rw [he], hk, _, ⟨b, ua, cc, _, rfl, rfl, ?_, q1⟩, fun x hx => ?_⟩
    · rw [q2]
      rw [mod_add64] at hp
      exact hp
    · have hx' : x ∈ sndF b ua us' := by
        rcases sndF_mem hx with rfl | ⟨y, hy, rfl⟩ | ⟨j, hj, e⟩
        · exact sndF_b _ _ _
        · exact sndF_u hy
        · rw [getD_dropU] at e
          rw [List.length_drop] at hj
          exact sndF_a (by omega) e
      exact sndF_new hN ht.1 hx'
  · rw [r2 he]
    refine (stake_bad r a n c h1 (Nat.mod_lt _ (by omega)) (by omega) h2.usOk hG hn hm he).mono ?_
    rintro e w' ⟨rfl, hb⟩
    exact ⟨rfl, Kept.of_below hb, sndF b ua us, ⟨b, ua, cc, us, rfl, rfl, h1.kept (Kept.of_below (S := []) hb) (by simp), h2⟩, fun x hx => .inl hx⟩
end Go.Proofs.Ytbjgfoiikhbonaf
namespace Go.Proofs.Ytbjgfoiikhbonaf
theorem rep_laws : RepLaws Snd Rcv where
  slt := fun h => snd_lt h
  rlt := fun h => rcv_lt h
  skept := fun h hk hd => snd_kept h hk hd
  rkept := fun h hk hd => rcv_kept h hk hd
  snew := snd_new
  snewBad := snd_newBad
  rnew := rcv_new
  rnewBad := rcv_newBad
  submit := fun s h _ hs => snd_submit s h (by unfold manyB at hs; unfold maxLen; omega)
  next := fun size h _ => snd_next size h
  take := fun r a n c h _ hG hNI hn hm => snd_take r a n c h hG (fun _ => hNI) hn hm
  wait := fun h _ => snd_wait h
  rtake := fun x h _ hs => rcv_take x h hs
  report := fun h _ => rcv_report h
end Go.Proofs.Ytbjgfoiikhbonaf
