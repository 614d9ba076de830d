import Derived.Test.YtbmdjfolfmgmmagK20
namespace Go.Proofs.Ytbmdjfolfmgmmag
open Go.ChangeShapes Go.WideShapes Go.ChangeAt Go.RowKit
theorem PGt.put {w : World} {g : Nat} {vc vd vc' vd' : Value} {cs : List Nat} {dd : List ByteArray} {m : GcM} {p : PktM} {w0 : World} (h : PGt w0 g vc vd cs dd m)
    (hd : At w g 38 [.int .i64 m.key, .int .i64 (m.fst : Int), vc', vd'])
    (rc : w.ownsRow 0 3 1 vc' (cs.length + 1) ((cs.map fun c => Value.int .i64 ((c : Nat) : Int)) ++ [.int .i64 ((m.cnt p : Nat) : Int)]))
    (rd : w.ownsRow 0 9 1 vd' (cs.length + 1) (dd.map Value.string ++ [.string (m.opened p)]))
    (n1 : g ∉ ownB vc') (n2 : g ∉ ownB vd') (n3 : ∀ x ∈ ownB vc', x ∉ ownB vd') (hC : m.cnt p < 16777216) (hf : m.fst ≤ m.cnt p) (hM : m.M (m.cnt p) = none) : PGt w g vc' vd' (cs ++ [m.cnt p]) (dd ++ [m.opened p]) (m.put p) := by
  have hlc : (cs ++ [m.cnt p]).length = cs.length + 1 := by simp
  have hld : (dd ++ [m.opened p]).length = cs.length + 1 := by rw [List.length_append, List.length_singleton, h.len]
  refine ⟨hd, by rw [hlc, List.map_append]; exact rc, by rw [hld, List.map_append]; exact rd, by rw [hlc, hld], n1, n2, n3, fun k hk x => ?_, fun i hi => ?_, h.ok.put hC hf⟩
  · show updM m.M (m.cnt p) (some (m.opened p)) k = some x ↔ _
    rw [hlc]
    by_cases e : k = m.cnt p
    · subst e
      rw [updM_same]
      constructor
      · intro hx
        refine ⟨cs.length, by omega, by rw [cAt_snoc, if_pos rfl], ?_⟩
        unfold dAt
        rw [h.len, getD_snocG, if_pos rfl]
        exact Option.some.inj hx
      · rintro ⟨i, hi, e1, e2⟩
        by_cases hin : i = cs.length
        · subst hin
          unfold dAt at e2
          rw [h.len, getD_snocG, if_pos rfl] at e2
          rw [e2]
        · rw [cAt_snoc, if_neg hin] at e1
          have := (h.look (m.cnt p) hf (dAt dd i)).2 ⟨i, by omega, e1, rfl⟩
          rw [hM] at this
          cases this
    · rw [updM_other _ _ e, h.look k hk x]
      constructor
      · rintro ⟨i, hi, e1, e2⟩
        refine ⟨i, by omega, by rw [cAt_snoc, if_neg (by omega)]; exact e1, ?_⟩
        unfold dAt at e2 ⊢
        rw [getD_snocG, if_neg (by rw [← h.len]; omega)]
        exact e2
      · rintro ⟨i, hi, e1, e2⟩
        by_cases hin : i = cs.length
        · subst hin
          rw [cAt_snoc, if_pos rfl] at e1
          exact absurd e1.symm e
        · rw [cAt_snoc, if_neg hin] at e1
          unfold dAt at e2
          rw [getD_snocG, if_neg (by rw [← h.len]; exact hin)] at e2
          exact ⟨i, by omega, e1, e2⟩
  · rw [hlc] at hi
    rw [cAt_snoc]
    split
    · exact hC
    · exact h.top i (by omega)
def RtkPost (w : World) (g : Nat) (vc vd : Value) (cs : List Nat) (dd : List ByteArray) (m : GcM) (n : Nat) : Ending → World → Prop := fun e w' => ∃ v vc' vd', e = .returned (.tuple #[v, .int .i64 0]) ∧ w'.ownsRow w.heap.size 9 1 v n ((toldG m.M m.fst n).map Value.string) ∧ Kept (gtF g vc vd) w w' ∧ PGt w' g vc' vd' cs dd (m.cut n) ∧ Grown w.heap.size (ownB vc ++ ownB vd) (ownB vc' ++ ownB vd')
/-- What comes of the two appends, and of what is told. -/
theorem rtake_end {w w4 : World} {g : Nat} {ac ad : Option Addr} {nc nd cc cd : Nat} {cs : List Nat} {dd : List ByteArray} {m : GcM} {p : PktM} (h : PGt w g (.slice ac nc cc) (.slice ad nd cd) cs dd m) (h4 : RkW w w4 g (.slice ac nc cc) (.slice ad nd cd) cs dd m p) (hC : m.cnt p < 16777216) (hf : m.fst ≤ m.cnt p) (hM : m.M (m.cnt p) = none) (hl : cs.length < 1000000000) {n : Nat} (hn : RunG (m.put p).M m.fst n) :
    ∃ v1 w5, (Builtin.append_ #[36, 36] 36 #[.slice none 0 0, .slice ac nc cc]).run Try.prog w4 = .ok v1 w5 ∧ ∃ a2 c2 w6, (Builtin.append_ #[36, 36] 36 #[v1, .slice (some ⟨w5.heap.size, 0, none⟩) 1 1]).run Try.prog (w5.alloc (.cells #[.int .i64 ((m.cnt p : Nat) : Int)] 3)) = .ok (.slice a2 (cs.length + 1) c2) w6 ∧ (∃ a1 n1 c1, v1 = .slice a1 n1 c1) ∧
      w4.cell? ⟨g, 2, none⟩ = some (.slice ac nc cc) ∧ w6.cell? ⟨g, 2, none⟩ = some (.slice ac nc cc) ∧ w6.frozen? ⟨g, 2, none⟩ = false ∧ (w6.setCell ⟨g, 2, none⟩ (.slice a2 (cs.length + 1) c2)).cell? ⟨g, 3, none⟩ = some (.slice ad nd cd) ∧
      ∃ v3 w8, (Builtin.append_ #[32, 32] 32 #[.slice none 0 0, .slice ad nd cd]).run Try.prog (w6.setCell ⟨g, 2, none⟩ (.slice a2 (cs.length + 1) c2)) = .ok v3 w8 ∧ ∃ a4 c4 w9, (Builtin.append_ #[32, 32] 32 #[v3, .slice (some ⟨w8.heap.size, 0, none⟩) 1 1]).run Try.prog (w8.alloc (.cells #[.string (m.opened p)] 9)) = .ok (.slice a4 (cs.length + 1) c4) w9 ∧ (∃ a1 n1 c1, v3 = .slice a1 n1 c1) ∧
      w9.cell? ⟨g, 3, none⟩ = some (.slice ad nd cd) ∧ w9.frozen? ⟨g, 3, none⟩ = false ∧ Calls Try.prog 33 #[.pointer (some ⟨g, 0, none⟩), .bool false] (w9.setCell ⟨g, 3, none⟩ (.slice a4 (cs.length + 1) c4)) (fun e w' => ∃ v a c, e = .returned v ∧ v = .slice a n c ∧ RtkPost w g (.slice ac nc cc) (.slice ad nd cd) (cs ++ [m.cnt p]) (dd ++ [m.opened p]) (m.put p) n (.returned (.tuple #[v, .int .i64 0])) w') := by
  obtain ⟨i0, hi, hz0, hz1, hz2⟩ := info_parts Try.infoNt
  obtain ⟨j0, hj, hy0, hy1, hy2⟩ := info_parts Try.infoTx
  have hlt := h.lt
  have hgl : g < w.heap.size := hlt g List.mem_cons_self
  have hs4 := h4.bel.size
  obtain ⟨v1, w5, hr1, a2, c2, w6, hr2, ho2, hb6, hsh1⟩ := run_copyPush (ty := 36) Try.underlying36 hi hz0 hz1 hz2 rfl h4.rc.rowc (fun u hu => by
    obtain ⟨y, _, rfl⟩ := List.mem_map.1 hu
    rfl) (.int .i64 ((m.cnt p : Nat) : Int)) rfl (by unfold maxLen; omega) (by omega)
  have h6 := h4.next hb6
  have hk7 : Kept [g] w6 (w6.setCell ⟨g, 2, none⟩ (.slice a2 (cs.length + 1) c2)) := (Kept.refl _ _).setCell (by simp) _
  have hH7 := h6.rc.hd.setCellG 2 (.slice a2 (cs.length + 1) c2)
  have hd7 := row_kept h6.rc.rowd hk7 (fun x hx e => h.ned (by rw [List.mem_singleton] at e; rw [← e]; exact hx))
  have ho7 := row_kept ho2 hk7 (fun x hx e => by
    rw [List.mem_singleton] at e
    have := (row_new ho2 x hx).1
    omega)
  obtain ⟨v3, w8, hr3, a4, c4, w9, hr4, ho4, hb9, hsh3⟩ := run_copyPush (ty := 32) Try.underlying32 hj hy0 hy1 hy2 rfl hd7 (fun u hu => by
    obtain ⟨y, _, rfl⟩ := List.mem_map.1 hu
    rfl) (.string (m.opened p)) rfl (by rw [← h.len]; unfold maxLen; omega) (by rw [← h.len]; omega)
  rw [← h.len] at hr4 ho4
  have hs7 : (w6.setCell ⟨g, 2, none⟩ (.slice a2 (cs.length + 1) c2)).heap.size = w6.heap.size := by simp
  rw [hs7] at ho4
  have hH9 := hH7.kept (S := []) (Kept.of_below hb9) (by simp)
  have ho9 := row_kept ho7 (S := []) (Kept.of_below hb9) (by simp)
  have hk10 : Kept [g] w9 (w9.setCell ⟨g, 3, none⟩ (.slice a4 (cs.length + 1) c4)) := (Kept.refl _ _).setCell (by simp) _
  have hb6s := hb6.size
  have n1 : ∀ x ∈ ownB (.slice a2 (cs.length + 1) c2), w4.heap.size ≤ x ∧ x < w6.heap.size := fun x hx => row_new ho2 x hx
  have n2 : ∀ x ∈ ownB (.slice a4 (cs.length + 1) c4), w6.heap.size ≤ x := fun x hx => (row_new ho4 x hx).1
  have hP10 : PGt (w9.setCell ⟨g, 3, none⟩ (.slice a4 (cs.length + 1) c4)) g (.slice a2 (cs.length + 1) c2) (.slice a4 (cs.length + 1) c4) (cs ++ [m.cnt p]) (dd ++ [m.opened p]) (m.put p) := by
    refine PGt.put h (hH9.setCellG 3 _) ?_ ?_ (fun e => by have := n1 _ e; omega) (fun e => by have := n2 _ e; omega) (fun x hx e => by
      have h1 := n1 x hx
      have h2 := n2 x e
      omega) hC hf hM
    · have h9 := row_kept ho9 hk10 (fun x hx e => by rw [List.mem_singleton] at e; have := n1 x hx; omega)
      refine ⟨h9.1, ?_⟩
      rcases h9.2 with q | ⟨g9, cap, cur, q1, q2, q3⟩
      · exact .inl q
      · exact .inr ⟨g9, cap, cur, q1, Nat.zero_le _, q3⟩
    · have h9 := row_kept ho4 hk10 (fun x hx e => by rw [List.mem_singleton] at e; have := n2 x hx; omega)
      refine ⟨h9.1, ?_⟩
      rcases h9.2 with q | ⟨g9, cap, cur, q1, q2, q3⟩
      · exact .inl q
      · exact .inr ⟨g9, cap, cur, q1, Nat.zero_le _, q3⟩
  refine ⟨v1, w5, hr1, a2, c2, w6, hr2, hsh1, h4.rc.hd.cell 2, h6.rc.hd.cell 2, h6.rc.hd.free 2, hH7.cell 3, v3, w8, hr3, a4, c4, w9, hr4, hsh3, hH9.cell 3, hH9.free 3, ?_⟩
  obtain ⟨q1, q2⟩ := run_steps (m.put p).M n m.fst hn
  refine (rtell_any hP10 false (List.range' m.fst n) q1 (by rw [List.length_append, List.length_singleton]; omega)).mono ?_
  rintro e w' ⟨v, rfl, ho, hK, hP⟩
  rw [run_texts, List.length_range'] at ho
  obtain ⟨a, c, rfl, -, -, -⟩ := row_shape ho
  have e2 : (m.put p).cutTo (endG (m.put p).fst (List.range' m.fst n)) = (m.put p).cut n := by
    show (m.put p).cutTo (endG m.fst (List.range' m.fst n)) = _
    rw [q2]
    rfl
  rw [e2] at hP
  have hb9s := hb9.size
  rw [hs7] at hb9s
  refine ⟨_, a, c, rfl, rfl, _, _, _, rfl, ?_, ?_, hP, ?_⟩
  · refine ⟨ho.1, ?_⟩
    rcases ho.2 with q | ⟨g9, cap, cur, q1, q2, q3⟩
    · exact .inl q
    · refine .inr ⟨g9, cap, cur, q1, ?_, q3⟩
      have : (w9.setCell ⟨g, 3, none⟩ (.slice a4 (cs.length + 1) c4)).heap.size = w9.heap.size := by simp
      rw [this] at q2
      omega
  · have e1 : Kept (gtF g (.slice ac nc cc) (.slice ad nd cd)) w w6 := Kept.of_below h6.bel
    have hgF : ∀ x ∈ [g], x ∈ gtF g (.slice ac nc cc) (.slice ad nd cd) := fun x hx => by rw [List.mem_singleton] at hx; subst hx; exact List.mem_cons_self
    exact (((e1.trans (hk7.wider hgF)).trans (Kept.of_below hb9)).trans (hk10.wider hgF)).trans (hK.wider hgF)
  · intro x hx
    rcases List.mem_append.1 hx with hx | hx
    · exact .inr (by have := n1 x hx; omega)
    · exact .inr (by have := n2 x hx; omega)
set_option maxRecDepth 100000 in
set_option maxHeartbeats 2000000 in
theorem rgtake_ok {w : World} {g : Nat} {vc vd : Value} {cs : List Nat} {dd : List ByteArray} {m : GcM} (h : PGt w g vc vd cs dd m) (p : PktM) (hf : formOk p = true) (hi : cntIn m.fst p.short = true) (hsl : p.sl = sealG (m.cnt p) (m.opened p)) (ho : m.fst ≤ m.cnt p) (ht : m.M (m.cnt p) = none) (hl : cs.length < 1000000000) {n : Nat} (hn : RunG (m.put p).M m.fst n) :
    Calls Try.prog 15 #[.pointer (some ⟨g, 0, none⟩), p.val] w (RtkPost w g vc vd (cs ++ [m.cnt p]) (dd ++ [m.opened p]) (m.put p) n) := by
  obtain ⟨hs, hl3, hd5⟩ := formOk_bd hf
  have hT := RkW.first p h
  obtain ⟨D, hD, hcD, hstp⟩ := cnt_way (f := m.fst) hs
  have hfw := h.ok.few
  have c1 : (w.alloc (.cells #[.int .i64 p.short, .string p.data, .string p.sl] 43)).cell? ⟨g, 1, none⟩ = some (.int .i64 (m.fst : Int)) := hT.rc.hd.cell 1
  have hcb := cntIn_bd hi
  obtain ⟨C, eC⟩ : ∃ C, C = m.cnt p := ⟨_, rfl⟩
  have hCi : cntG m.fst p.short = (C : Int) := by rw [eC]; unfold GcM.cnt; omega
  have hC : C < 16777216 := by omega
  have hcv := fun wz => rcovered_any p.data m.key C wz hd5 h.ok.key (by omega)
  have hse := fun wz => rsealing_any (m.opened p) C wz (by unfold GcM.opened; rw [hidG_size]; exact hd5) hC
  have eO : hidG p.data (seedG m.key C) = m.opened p := by rw [eC]; rfl
  rw [eO] at hcv
  rw [← eC] at hsl
  obtain ⟨F, eF⟩ : ∃ F : Int, F = (m.fst : Int) := ⟨_, rfl⟩
  rw [← eF] at c1 hcD hstp
  have hF : 0 ≤ F ∧ F ≤ 16777216 := by omega
  have HSTP := hid hstp
  rw [hCi] at hcD
  have ho' : ¬ (C : Int) < F := by omega
  have hno : ∀ i, i < cs.length → cAt cs i ≠ C := fun i hi' e => by
    have h1 := (h.look (m.cnt p) ho (dAt dd i)).2 ⟨i, hi', by rw [e, eC], rfl⟩
    rw [ht] at h1
    cases h1
  obtain ⟨ac, cc, rfl, -, -, -⟩ := row_shape h.rowc
  obtain ⟨ad, cd, rfl, -, -, -⟩ := row_shape h.rowd
  have hfin := fun w4 (h4 : RkW w w4 g (.slice ac cs.length cc) (.slice ad dd.length cd) cs dd m p) => rtake_end h h4 (by rw [← eC]; exact hC) ho ht hl hn
  obtain ⟨Q, eQ⟩ : ∃ Q, Q = RtkPost w g (.slice ac cs.length cc) (.slice ad dd.length cd) (cs ++ [m.cnt p]) (dd ++ [m.opened p]) (m.put p) n := ⟨_, rfl⟩
  rw [← eQ] at hfin ⊢
  rw [← eC] at hfin
  generalize m.opened p = X at *
  generalize sealG C X = L at *
  obtain ⟨M, eM⟩ : ∃ M : Int, M = (C : Int) := ⟨_, rfl⟩
  rw [← eM] at hcv hse hcD
  have hM : 0 ≤ M ∧ M < 16777216 := by omega
  rw [← eM] at ho' hfin
  have hno' : ∀ i, i < cs.length → (((cAt cs i : Nat) : Int) == M) = false := fun i hi' => by
    have := hno i hi'
    simp
    omega
  obtain ⟨N, eN⟩ : ∃ N, N = cs.length := ⟨_, rfl⟩
  have hlen := h.len
  obtain ⟨s, d, l⟩ := p
  dsimp only [PktM.val] at *
  have hs' : ¬ (4095 < s) := by omega
  have hd' : ¬ (500 < d.size) := by omega
  have k0 : (w.alloc (.cells #[.int .i64 s, .string d, .string l] 43)).cell? ⟨w.heap.size, 0, none⟩ = some (.int .i64 s) := hT.pk.cell 0
  obtain ⟨w0, ew0⟩ : ∃ w0, w0 = w.alloc (.cells #[.int .i64 s, .string d, .string l] 43) := ⟨_, rfl⟩
  have HE0 := hid ew0.symm
  have HT := hid hT
  have HCD := hid hcD
  subst hsl
  have HEF := hid eF
  have HEN := hid eN
  have HNO := hid hno'
  have HFIN := hid hfin
  have hN9 : N ≤ 1000000000 := by omega
  clear hf hi hcD hstp h hT eF hfw eC hCi hC eO eM hcb ho ht eN hl hno hno' hfin hn eQ hlen
  go_enter Try.func15, Try.ntmps15
  go_wp2_with fail
  rw [HE0.out]
  rw [← ew0] at c1 k0 HT
  clear ew0 HE0
  go_loopw [6] (fun v wr => ∃ t : Nat, t ≤ D ∧ v = .int .i64 (F - 2048 + (t : Int)) ∧ wr = w0) (fun v _ => D - (intOf v - (F - 2048)).toNat)
  case atStart => exact ⟨0, Nat.zero_le _, by simp, rfl⟩
  case round =>
    obtain ⟨t, ht, rfl, rfl⟩ := hrel
    have hst := HSTP.out t ht
    by_cases htD : t < D
    · rw [decide_eq_true htD] at hst
      go_wp2_with fail
      exact ⟨⟨t + 1, by omega, by go_num, by first | rfl | trivial⟩, by simp [intOf]; omega⟩
    · obtain rfl : t = D := by omega
      rw [decide_eq_false htD] at hst
      have hcm : F - 2048 + (t : Int) = M := HCD.out.symm
      have k1 : wr.cell? ⟨w.heap.size, 1, none⟩ = some (.string d) := HT.out.pk.cell 1
      have k2 : wr.cell? ⟨g, 0, none⟩ = some (.int .i64 m.key) := HT.out.rc.hd.cell 0
      rw [hcm] at hst ⊢
      clear htD ht
      go_upto_region 8 with fail
      go_region_held3 (fun w' => w'.cell? ⟨w.heap.size, 1, none⟩ = some (.string d) ∧ w'.cell? ⟨g, 0, none⟩ = some (.int .i64 m.key)) (first | exact ⟨k1, k2⟩ | exact ⟨y1, y2⟩ | go_keep) (first | (go_at_call 31; refine (hcv _).mono ?_; rintro e w3 ⟨rfl, hb3⟩; have HT3 := hid ((HT.out.next ((Below.refl _ wr).drew)).next hb3); have y1 : w3.cell? ⟨w.heap.size, 1, none⟩ = some (.string d) := HT3.out.pk.cell 1; have y2 : w3.cell? ⟨g, 0, none⟩ = some (.int .i64 m.key) := HT3.out.rc.hd.cell 0))
      have k3 : w3.cell? ⟨w.heap.size, 2, none⟩ = some (.string l) := HT3.out.pk.cell 2
      clear y1 y2 k1 k2 k0 c1 hcv hb3
      go_upto_region 9 with fail
      go_region_held3 (fun w' => w'.cell? ⟨w.heap.size, 2, none⟩ = some (.string l)) (first | exact k3 | exact y3 | go_keep) (first | (go_at_call 32; refine (hse _).mono ?_; rintro e w4 ⟨rfl, hb4⟩; have HT4 := hid ((HT3.out.next ((Below.refl _ w3).drew)).next hb4); have y3 : w4.cell? ⟨w.heap.size, 2, none⟩ = some (.string l) := HT4.out.pk.cell 2))
      clear k3 y3 hb4
      have k4 : w4.cell? ⟨g, 1, none⟩ = some (.int .i64 F) := by rw [HEF.out]; exact HT4.out.rc.hd.cell 1
      have k5 : w4.cell? ⟨g, 2, none⟩ = some (.slice ac N cc) := by rw [HEN.out]; exact HT4.out.rc.hd.cell 2
      have HCEL := hid (fun i (hi' : i < cs.length) => row_nats HT4.out.rc.rowc hi')
      go_wp2_with fail
      go_loopw [8] (fun v wz => ∃ j : Nat, j ≤ N ∧ v = .int .i64 j ∧ wz = w4) (fun v _ => N - (intOf v).toNat)
      case atStart => exact ⟨0, Nat.zero_le _, rfl, rfl⟩
      case round =>
        obtain ⟨j, hj, rfl, rfl⟩ := hrel
        by_cases hjN : j < N
        · obtain ⟨gc, rfl, hcel⟩ := HCEL.out j (by rw [← HEN.out]; exact hjN)
          have cj := hcel j (by rw [← HEN.out]; exact hjN)
          have eb := HNO.out j (by rw [← HEN.out]; exact hjN)
          generalize cAt cs j = Y at *
          clear hcel
          go_wp2_with fail
          exact ⟨⟨j + 1, by omega, by go_num, by first | rfl | trivial⟩, by simp [intOf]; omega⟩
        · obtain rfl : j = N := by omega
          have hfi := HFIN.out _ HT4.out
          rw [← HEN.out] at hfi
          obtain ⟨v1, w5, hr1, a2, c2, w6, hr2, ⟨a1, n1, c1, rfl⟩, z1, z2, z3, z4, v3, w8, hr3, a4, c4, w9, hr4, ⟨a3, n3, c3, rfl⟩, z5, z6, htl⟩ := hfi
          have HTL := hid htl
          clear htl k4
          go_wp2_with (first
            | (at_builtin; refine wpList_bi2 _ rfl .append _ _ 36 36 rfl (.slice none 0 0) (.slice ac j cc) rfl rfl (bi_append hr1) ?_)
            | (at_builtin; refine wpList_bi2 _ rfl .append _ _ 36 36 rfl (.slice a1 n1 c1) (.slice (some ⟨w5.heap.size, 0, none⟩) 1 1) rfl rfl (bi_append hr2) ?_)
            | (at_builtin; refine wpList_bi2 _ rfl .append _ _ 32 32 rfl (.slice none 0 0) (.slice ad dd.length cd) rfl rfl (bi_append hr3) ?_)
            | (at_builtin; refine wpList_bi2 _ rfl .append _ _ 32 32 rfl (.slice a3 n3 c3) (.slice (some ⟨w8.heap.size, 0, none⟩) 1 1) rfl rfl (bi_append hr4) ?_)
            | (go_at_call 33; refine HTL.out.mono ?_; rintro e w10 ⟨v, a, c, rfl, rfl, hend⟩))
          exact hend
theorem rflush_any {w : World} {g : Nat} {vc vd : Value} {cs : List Nat} {dd : List ByteArray} {m : GcM} (h : PGt w g vc vd cs dd m) (ks : List Nat) (hs : StepsG m.M true m.fst ks) (hl : cs.length ≤ 1000000000) :
    Calls Try.prog 19 #[.pointer (some ⟨g, 0, none⟩)] w (RtPost w g vc vd cs dd m ks) := by
  have ht := rtell_any h true ks hs hl
  clear h hs hl
  go_enter Try.func19, Try.ntmps19
  go_wp2_with (go_at_call 33; refine ht.mono ?_; rintro e w1 ⟨v, rfl, ho, hr⟩; obtain ⟨a, c, rfl, -, -, -⟩ := row_shape ho)
  go_ret
  exact ⟨_, rfl, ho, hr⟩
end Go.Proofs.Ytbmdjfolfmgmmag
