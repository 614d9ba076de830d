import Derived.Test.YtbjgfoiikhbonafK42
set_option linter.unusedVariables false
set_option linter.unusedSimpArgs false
namespace Go.Proofs.Ytbjgfoiikhbonaf
open Go.ChangeShapes Go.WideShapes Go.ChangeAt Go.RowKit
theorem rsnd_next {w : World} {p : Addr} {F : List Nat} {m : OutM} (size : Int) (h : RSnd w p F m) (hn : m.n ≤ manyO) : Calls Try.prog 17 #[.pointer (some p), .int .i64 size] w fun e w' => e = .returned (.tuple #[(m.next size).p.val, .int .i64 (m.next size).err]) ∧ Kept F w w' ∧ ∃ F', RSnd w' p F' (m.next size).m ∧ Grown w.heap.size F F' := by
  have h0 := h
  obtain ⟨b, ua, c, us, rfl, rfl, h1, h2⟩ := h
  by_cases hs : size < 1 ∨ 1500 < size
  · have e : m.next size = ⟨m, .zero, 1⟩ := by unfold OutM.next; rw [if_pos hs]
    rw [e]
    refine (onext_bad hs).mono ?_
    rintro e w' ⟨rfl, hb⟩
    exact ⟨rfl, Kept.of_below hb, _, rsnd_kept h0 (Kept.of_below (S := []) hb) (by simp), fun x hx => .inl hx⟩
  · obtain ⟨n, rfl⟩ : ∃ n : Nat, size = (n : Int) := ⟨size.toNat, by omega⟩
    refine (onext_good h1 h2 hn (by omega) (by omega)).mono ?_
    rintro e w' ⟨rfl, hk, us', hp, hm, hf⟩
    have ew : (m.next (n : Int)).m.win = m.win ∧ (m.next (n : Int)).m.beg = m.beg := by
      unfold OutM.next
      split
      · exact ⟨rfl, rfl⟩
      · split
        · exact ⟨rfl, rfl⟩
        · split
          · exact ⟨rfl, rfl⟩
          · exact ⟨rfl, rfl⟩
    refine ⟨rfl, hk, outF b ua us, ⟨b, ua, c, us', rfl, hf.symm, ?_, hm⟩, fun x hx => .inl hx⟩
    rw [ew.1, ew.2]
    exact hp
end Go.Proofs.Ytbjgfoiikhbonaf
namespace Go.Proofs.Ytbjgfoiikhbonaf
open Go.ChangeShapes Go.WideShapes Go.ChangeAt Go.RowKit
/-- Only what lies within the units counts. -/
theorem OutR.congr {m m' : OutM} {us : List UoP} (h : OutR m us) (hw : m'.win = m.win) (hb : m'.beg ≤ m.n) (ht : m'.text = m.text) (hd : ∀ u, u < m.n → m'.done u = m.done u) (hk : ∀ u, u < m.n → ∀ t, t < m.sz u → m'.mark u t = m.mark u t) (hf : ∀ u, m.n ≤ u → m'.done u = false ∧ ∀ t, m'.mark u t = 0) : OutR m' us := by
  have hn : m'.n = m.n := by unfold OutM.n; rw [ht]
  have htt : ∀ u, m'.t u = m.t u := fun u => by unfold OutM.t; rw [ht]
  refine ⟨by rw [hw]; exact h.w1, by rw [hw]; exact h.w2, by rw [hn]; exact hb, by rw [hn]; exact h.len, fun i hi => ?_, fun u hu => hf u (by rw [← hn]; exact hu)⟩
  have hu := h.un i hi
  have hin : i < m.n := by rw [← h.len]; exact hi
  exact ⟨by rw [htt]; exact hu.tx, by rw [hd i hin]; exact hu.dn, hu.lo, hu.hi, hu.ml, fun t ht => by rw [hk i hin t (by rw [hu.sz]; exact ht)]; exact hu.mks t ht⟩
/-- One unit's marks are written. -/
theorem OutR.put {m : OutM} {us : List UoP} {u : Nat} {ms : List Int} {f : Nat → Nat} (h : OutR m us) (hu : u < us.length) (hl : ms.length = (us.getD u .zero).text.size) (hv : ∀ t, t < (us.getD u .zero).text.size → ms.getD t 0 = mkc (f t) ∧ f t ≤ 2) : OutR { m with mark := fun v t => if v = u then f t else m.mark v t } (us.set u ((us.getD u .zero).put ms)) := by
  have hlen := h.len
  refine ⟨h.w1, h.w2, h.bn, by rw [List.length_set]; exact h.len, fun i hi => ?_, fun v hv' => ?_⟩
  · rw [List.length_set] at hi
    by_cases e : i = u
    · subst e
      rw [getD_setOS hi]
      have hx := h.un i hi
      refine ⟨hx.tx, hx.dn, hx.lo, hx.hi, hl, fun t ht => ?_⟩
      show ms.getD t 0 = mkc (if i = i then f t else m.mark i t) ∧ (if i = i then f t else m.mark i t) ≤ 2
      rw [if_pos rfl]
      exact hv t ht
    · rw [getD_setON (fun h => e h.symm)]
      have hx := h.un i hi
      refine ⟨hx.tx, hx.dn, hx.lo, hx.hi, hx.ml, fun t ht => ?_⟩
      show _ = mkc (if i = u then f t else m.mark i t) ∧ (if i = u then f t else m.mark i t) ≤ 2
      rw [if_neg e]
      exact hx.mks t ht
  · have hv' : m.n ≤ v := hv'
    obtain ⟨f1, f2⟩ := h.fresh v hv'
    refine ⟨f1, fun t => ?_⟩
    show (if v = u then f t else m.mark v t) = 0
    rw [if_neg (by omega)]
    exact f2 t
/-- One unit is done. -/
theorem OutR.finish {m : OutM} {us : List UoP} {u : Nat} (h : OutR m us) (hu : u < us.length) : OutR { m with done := fun v => if v = u then true else m.done v } (us.set u { us.getD u .zero with dn := true }) := by
  have hlen := h.len
  refine ⟨h.w1, h.w2, h.bn, by rw [List.length_set]; exact h.len, fun i hi => ?_, fun v hv' => ?_⟩
  · rw [List.length_set] at hi
    by_cases e : i = u
    · subst e
      rw [getD_setOS hi]
      have hx := h.un i hi
      refine ⟨hx.tx, ?_, hx.lo, hx.hi, hx.ml, hx.mks⟩
      show true = if i = i then true else m.done i
      rw [if_pos rfl]
    · rw [getD_setON (fun h => e h.symm)]
      have hx := h.un i hi
      refine ⟨hx.tx, ?_, hx.lo, hx.hi, hx.ml, hx.mks⟩
      show _ = if i = u then true else m.done i
      rw [if_neg e]
      exact hx.dn
  · have hv' : m.n ≤ v := hv'
    obtain ⟨f1, f2⟩ := h.fresh v hv'
    refine ⟨?_, f2⟩
    show (if v = u then true else m.done v) = false
    rw [if_neg (by omega)]
    exact f1
/-- Marks that were a become z where p holds. -/
def swapL (ms : List Int) (a z : Int) (p : Nat → Bool) : List Int := (List.range ms.length).map fun j => if p j = true ∧ ms.getD j 0 = a then z else ms.getD j 0
theorem swapL_len (ms : List Int) (a z : Int) (p : Nat → Bool) : (swapL ms a z p).length = ms.length := by simp [swapL]
theorem swapL_at {ms : List Int} {a z : Int} {p : Nat → Bool} {j : Nat} (hj : j < ms.length) : (swapL ms a z p).getD j 0 = if p j = true ∧ ms.getD j 0 = a then z else ms.getD j 0 := by
  unfold swapL
  rw [List.getD_eq_getElem?_getD, List.getElem?_map, List.getElem?_range hj]
  rfl
end Go.Proofs.Ytbjgfoiikhbonaf
namespace Go.Proofs.Ytbjgfoiikhbonaf
open Go.ChangeShapes Go.WideShapes Go.ChangeAt Go.RowKit
structure OrdM (m : OutM) : Prop where
  up : ∀ u v i, u < v → m.mark v i ≠ 0 → m.mark u 0 ≠ 0
  at0 : ∀ u i, m.mark u i ≠ 0 → m.mark u 0 ≠ 0
  dn : ∀ u, m.done u = true → m.mark u 0 ≠ 0
  bg : ∀ u, u < m.beg → m.done u = true
theorem OrdM.new (k : Nat) : OrdM (OutM.new k) := ⟨fun _ _ _ _ h => absurd rfl h, fun _ _ h => absurd rfl h, fun _ h => Bool.noConfusion h, fun _ h => absurd h (Nat.not_lt_zero _)⟩
theorem OrdM.submit {m : OutM} (h : OrdM m) (s : ByteArray) : OrdM (m.submit s).m := by
  unfold OutM.submit
  split
  · exact h
  · split
    · exact h
    · split
      · exact h
      · exact ⟨h.up, h.at0, h.dn, h.bg⟩
/-- Behind a unit of which nothing was sent nothing was sent. -/
theorem OrdM.none {m : OutM} (h : OrdM m) {u v i : Nat} (h0 : m.mark u 0 = 0) (hv : u ≤ v) : m.mark v i = 0 := by
  by_cases e : m.mark v i = 0
  · exact e
  · exfalso
    by_cases e1 : u = v
    · subst e1; exact h.at0 u i e h0
    · exact h.up u v i (by omega) e h0
theorem sent_mark (m : OutM) (u a b v i : Nat) : (m.sent u a b).mark v i = if v = u ∧ a ≤ i ∧ i < b then 1 else m.mark v i := rfl
theorem OrdM.sent {m : OutM} (h : OrdM m) {u a b : Nat} (hb : ∀ v, v < u → m.mark v 0 ≠ 0) (ha : a = 0 ∨ m.mark u 0 ≠ 0) (hab : a < b) : OrdM (m.sent u a b) := by
  have hm : ∀ v i, m.mark v i ≠ 0 → (m.sent u a b).mark v i ≠ 0 := fun v i e => by
    rw [sent_mark]
    split
    · omega
    · exact e
  have hu : (m.sent u a b).mark u 0 ≠ 0 := by
    rcases ha with rfl | ha
    · rw [sent_mark, if_pos ⟨rfl, Nat.le_refl _, hab⟩]
      omega
    · exact hm _ _ ha
  refine ⟨fun x v i hx e => ?_, fun x i e => ?_, fun x e => hm _ _ (h.dn x e), h.bg⟩
  · rw [sent_mark] at e
    by_cases c : v = u ∧ a ≤ i ∧ i < b
    · exact hm _ _ (hb x (by omega))
    · rw [if_neg c] at e
      exact hm _ _ (h.up x v i hx e)
  · rw [sent_mark] at e
    by_cases c : x = u ∧ a ≤ i ∧ i < b
    · rw [c.1]; exact hu
    · rw [if_neg c] at e
      exact hm _ _ (h.at0 x i e)
theorem cut_gt {m : OutM} {k u size : Nat} (hh : m.hit k u < m.sz u) (hs : 1 ≤ size) : m.hit k u < m.cut k u size := by
  unfold OutM.cut
  have hat : (m.mark u (m.hit k u) == k) = true := by
    unfold OutM.hit at hh ⊢
    exact firstIn_at (p := fun i => m.mark u i == k) hh
  have hge := firstIn_ge (fun i => m.mark u i != k) (m.hit k u) (min (m.sz u) (m.hit k u + size))
  by_cases e : firstIn (fun i => m.mark u i != k) (m.hit k u) (min (m.sz u) (m.hit k u + size)) = m.hit k u
  · have hlt : firstIn (fun i => m.mark u i != k) (m.hit k u) (min (m.sz u) (m.hit k u + size)) < min (m.sz u) (m.hit k u + size) := by omega
    have h2 := firstIn_at hlt
    rw [e] at h2
    simp only [bne_iff_ne, beq_iff_eq] at h2 hat
    exact absurd hat h2
  · omega
theorem OrdM.next {m : OutM} (h : OrdM m) (hp : ∀ u, u < m.n → 0 < m.sz u) (size : Int) : OrdM (m.next size).m := by
  unfold OutM.next
  split
  · exact h
  · rename_i hs
    split
    · rename_i hw
      have hc := firstIn_at (p := m.can 2) (lo := m.beg) (hi := m.edge 2) hw
      have hc : m.can 2 (m.who 2) = true := hc
      unfold OutM.can at hc
      simp only [Bool.and_eq_true, decide_eq_true_eq] at hc
      have hat : (m.mark (m.who 2) (m.hit 2 (m.who 2)) == 2) = true := by
        have h3 := hc.1
        unfold OutM.hit at h3 ⊢
        exact firstIn_at (p := fun i => m.mark (m.who 2) i == 2) h3
      have hne : m.mark (m.who 2) (m.hit 2 (m.who 2)) ≠ 0 := by
        rw [beq_iff_eq] at hat
        omega
      exact h.sent (fun v hv => h.up v _ _ hv hne) (.inr (h.at0 _ _ hne)) (cut_gt hc.1 (by omega))
    · split
      · rename_i hw
        have hc := firstIn_at (p := m.can 0) (lo := m.beg) (hi := m.edge 0) hw
        have hc : m.can 0 (m.who 0) = true := hc
        unfold OutM.can at hc
        simp only [Bool.and_eq_true, decide_eq_true_eq] at hc
        refine h.sent (fun v hv => ?_) ?_ (cut_gt hc.1 (by omega))
        · by_cases hvb : v < m.beg
          · exact h.dn v (h.bg v hvb)
          · have h3 : m.can 0 v = false := firstIn_not (p := m.can 0) (lo := m.beg) (hi := m.edge 0) (by omega) hv
            cases hd : m.done v with
            | true => exact h.dn v hd
            | false =>
              intro e
              unfold OutM.can at h3
              rw [hd] at h3
              simp at h3
              have h4 : m.hit 0 v ≤ 0 := by
                unfold OutM.hit
                exact firstIn_lt (p := fun i => m.mark v i == 0) (lo := 0) (hi := m.sz v) (k := 0) (Nat.le_refl _) (by simpa using e)
              have h5 : m.edge 0 ≤ m.n := by unfold OutM.edge; split <;> omega
              have h6 := hp v (by omega)
              omega
        · by_cases e : m.mark (m.who 0) 0 = 0
          · left
            have h4 : m.hit 0 (m.who 0) ≤ 0 := by
              unfold OutM.hit
              exact firstIn_lt (p := fun i => m.mark (m.who 0) i == 0) (lo := 0) (hi := m.sz (m.who 0)) (k := 0) (Nat.le_refl _) (by simpa using e)
            omega
          · exact .inr e
      · exact h
theorem mark2_zero (m : OutM) (d : Nat) (gs : List GapM) (u i : Nat) : m.mark2 d gs u i = 0 ↔ m.mark u i = 0 := by
  unfold OutM.mark2
  split
  · exact Iff.rfl
  · split
    · split
      · split <;> omega
      · split <;> omega
    · split <;> omega
theorem OrdM.take {m : OutM} (h : OrdM m) (r : ReportM) : OrdM (m.take r).m := by
  unfold OutM.take
  split
  · exact h
  · split
    · exact h
    · rename_i hs
      split
      · exact h
      · generalize aheadN r.next m.beg = d at *
        have hsp : m.spoken d = true := by simpa using hs
        have hd2 : ∀ u, m.done2 d r.miss u = true → m.mark u 0 ≠ 0 := fun u hu => by
          unfold OutM.done2 at hu
          rw [Bool.or_eq_true] at hu
          rcases hu with hu | hu
          · exact h.dn u hu
          · simp only [Bool.and_eq_true, decide_eq_true_eq] at hu
            unfold OutM.spoken at hsp
            rw [List.all_eq_true] at hsp
            have h3 := hsp (u - m.beg) (List.mem_range.2 (by omega))
            rw [show m.beg + (u - m.beg) = u by omega] at h3
            simp only [Bool.and_eq_true, bne_iff_ne] at h3
            exact h3.2
        refine ⟨fun u v i hu e => ?_, fun u i e => ?_, fun u e => ?_, fun u hu => ?_⟩
        · intro e0
          exact h.up u v i hu (fun e1 => e ((mark2_zero m d r.miss v i).2 e1)) ((mark2_zero m d r.miss u 0).1 e0)
        · intro e0
          exact h.at0 u i (fun e1 => e ((mark2_zero m d r.miss u i).2 e1)) ((mark2_zero m d r.miss u 0).1 e0)
        · intro e0
          exact hd2 u e ((mark2_zero m d r.miss u 0).1 e0)
        · have hu : u < firstIn (fun u => !m.done2 d r.miss u) m.beg m.n := hu
          show m.done2 d r.miss u = true
          by_cases hb : u < m.beg
          · unfold OutM.done2
            rw [h.bg u hb]
            rfl
          · have h3 := firstIn_not (p := fun u => !m.done2 d r.miss u) (by omega) hu
            simpa using h3
end Go.Proofs.Ytbjgfoiikhbonaf
namespace Go.Proofs.Ytbjgfoiikhbonaf
open Go.ChangeShapes Go.WideShapes Go.ChangeAt Go.RowKit
set_option maxRecDepth 100000 in
theorem otake_num {w : World} {b n c : Nat} {a : Option Addr} {nx : Int} (h : nx < 0 ∨ 63 < nx) :
    Calls Try.prog 23 #[.pointer (some ⟨b, 0, none⟩), .agg #[.int .i64 nx, .slice a n c]] w fun e w' => e = .returned (.int .i64 3) ∧ Below w.heap.size w w' := by
  have hb : Below w.heap.size w (w.alloc (.cells #[.int .i64 nx, .slice a n c] 73)) := (Below.refl _ w).alloc (Nat.le_refl _) _
  have hA := at_alloc w 73 [.int .i64 nx, .slice a n c]
  have y0 := hA.cell 0
  have HB := hid hb
  clear hb hA
  have hc : nx < 0 ∨ (¬ (nx < 0) ∧ 63 < nx) := by omega
  clear h
  rcases hc with h | ⟨h, h'⟩
  all_goals
    go_enter Try.func23, Try.ntmps23
    go_wp2_with fail
    go_ret
    exact ⟨rfl, HB.out⟩
set_option maxRecDepth 100000 in
set_option maxHeartbeats 4000000 in
theorem otake_un {w : World} {b n c cc : Nat} {a ua : Option Addr} {us : List UoP} {m : OutM} {nx : Int} (h : POut w b m.win m.beg ua cc us) (hm : OutR m us) (hn : m.n ≤ manyO) (h1 : 0 ≤ nx) (h2 : nx ≤ 63) (hs : m.spoken (aheadN nx m.beg) = false) :
    Calls Try.prog 23 #[.pointer (some ⟨b, 0, none⟩), .agg #[.int .i64 nx, .slice a n c]] w fun e w' => e = .returned (.int .i64 3) ∧ Below w.heap.size w w' := by
  have hb : Below w.heap.size w (w.alloc (.cells #[.int .i64 nx, .slice a n c] 73)) := (Below.refl _ w).alloc (Nat.le_refl _) _
  have hA := at_alloc w 73 [.int .i64 nx, .slice a n c]
  have y0 := hA.cell 0
  have hlen := hm.len
  have hbn := hm.bn
  have hP := h.kept (Kept.of_below (S := []) hb) (by simp)
  obtain ⟨-, c1, c2⟩ := hP.head
  rw [hlen] at c2
  have hn' : m.n ≤ 2000000000000 := hn
  have hah := fun wz => rahead_any nx m.beg wz h1 h2 (by unfold manyU; omega)
  have hd : aheadN nx m.beg < 64 := by unfold aheadN; omega
  have HP := hid hP
  have HM := hid hm
  have HB := hid hb
  have HS := hid hs
  have HL := hid hlen
  obtain ⟨N, hN⟩ : ∃ N, N = m.n := ⟨_, rfl⟩
  obtain ⟨G, hG⟩ : ∃ G, G = m.beg := ⟨_, rfl⟩
  obtain ⟨d, hd0⟩ : ∃ d, d = aheadN nx m.beg := ⟨_, rfl⟩
  rw [← hN] at c2 hn' hbn
  rw [← hG] at c1 hbn
  rw [← hd0] at hd
  have hah2 : ∀ wz, Calls Try.prog 44 #[.int .i64 nx, .int .i64 (G : Int)] wz fun e w2 => e = .returned (.int .i64 (d : Int)) ∧ w2 = wz := fun wz => by
    rw [hG, hd0]
    exact (hah wz).mono (by rintro e w2 ⟨rfl, rfl⟩; exact ⟨rfl, rfl⟩)
  have HN := hid hN
  have HG := hid hG
  have HD := hid hd0
  clear hb hA h hm hn hs hlen hP hah hN hG hd0
  go_enter Try.func23, Try.ntmps23
  go_upto_region 3 with fail
  generalize (w.alloc (.cells #[.int .i64 nx, .slice a n c] 73)) = wA at *
  go_quiet (first | (go_at_call 44; exact Calls.quiet_of_same (hah2 _)))
  go_wp2_with fail
  go_loopw [6] (fun vi wr => ∃ i : Nat, i ≤ d ∧ vi = .int .i64 i ∧ Hid (∀ j, j < i → m.beg + j < m.n ∧ m.mark (m.beg + j) 0 ≠ 0) ∧ ∃ q, wr = wA.drewN q) (fun vi _ => d - (intOf vi).toNat)
  case atStart => exact ⟨0, Nat.zero_le _, rfl, hid (fun j hj => absurd hj (by omega)), _, rfl⟩
  case round =>
    obtain ⟨i, hi, rfl, HJ, q, rfl⟩ := hrel
    by_cases hid2 : i < d
    · by_cases hGN : N ≤ G + i
      · have x1 : decide ((N : Int) ≤ (G : Int) + (i : Int)) = true := decide_eq_true (by omega)
        go_upto_region 7 with fail
        go_quiet (fail)
        go_wp2_with fail
        go_ret
        exact ⟨rfl, belowN (belowN HB.out q) _⟩
      · have x1 : decide ((N : Int) ≤ (G : Int) + (i : Int)) = false := decide_eq_false (by omega)
        have hil : G + i < us.length := by rw [HL.out, ← HN.out]; omega
        obtain ⟨ug, eua, hub, hun⟩ := HP.out.un (i := G + i) hil
        subst eua
        have hu := HM.out.un (G + i) hil
        have p1 := hun.c1
        obtain ⟨ad, cm, emv, hx, hlc, hcm⟩ := hun.ag.shape
        have hml := hu.ml
        have hlo := hu.lo
        obtain ⟨gm, rfl⟩ := hx (by intro e; have h3 := congrArg List.length e; rw [hml] at h3; have h3 : (us.getD (G + i) .zero).text.size = 0 := h3; omega)
        have hOw := hun.ag
        rw [emv] at hOw p1
        have p2 := hOw.cell (i := 0) (by omega)
        obtain ⟨hk1, hk2⟩ := hu.mks 0 hlo
        rw [hk1] at p2
        have hk3 : (mkc (m.mark (G + i) 0) == 110) = decide (m.mark (G + i) 0 = 0) := by
          by_cases e : m.mark (G + i) 0 = 0
          · rw [e]; rfl
          · rw [decide_eq_false e, beq_eq_false_iff_ne]
            intro e2
            exact e (mkc_inj hk2 (by omega) e2)
        rw [hml] at p1
        have hlp : 0 < (us.getD (G + i) .zero).text.size := hlo
        generalize (us.getD (G + i) .zero).text.size = L at *
        have HK3 : Hid (m.mark (G + i) 0 = m.mark (G + i) 0) := rfl
        by_cases e : m.mark (G + i) 0 = 0
        · rw [decide_eq_true e] at hk3
          have HE := hid e
          clear e hun hu emv hx hml hOw hk1 HK3
          generalize mkc (m.mark (G + i) 0) = Y at *
          go_upto_region 7 with fail
          go_quiet (fail)
          go_wp2_with fail
          go_ret
          exact ⟨rfl, belowN (belowN HB.out q) _⟩
        · rw [decide_eq_false e] at hk3
          have HE := hid e
          clear e hun hu emv hx hml hOw hk1 HK3
          generalize hY : mkc (m.mark (G + i) 0) = Y at p2 hk3
          clear hY
          go_upto_region 7 with fail
          go_quiet (fail)
          go_wp2_with fail
          refine ⟨⟨i + 1, by omega, by go_num, hid (fun j hj => ?_), _, rfl⟩, by simp [intOf]; omega⟩
          by_cases ej : j = i
          · subst ej
            rw [← HG.out, ← HN.out]
            exact ⟨by omega, HE.out⟩
          · exact HJ.out j (by omega)
    · exfalso
      have h3 : m.spoken (aheadN nx m.beg) = true := by
        unfold OutM.spoken
        rw [List.all_eq_true]
        intro j hj
        have h4 := HJ.out j (by have := List.mem_range.1 hj; rw [← HD.out] at this; omega)
        simp only [Bool.and_eq_true, decide_eq_true_eq, bne_iff_ne]
        exact h4
      rw [HS.out] at h3
      cases h3
end Go.Proofs.Ytbjgfoiikhbonaf
