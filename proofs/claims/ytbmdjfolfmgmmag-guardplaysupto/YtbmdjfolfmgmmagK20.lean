import Derived.Test.YtbmdjfolfmgmmagK19
namespace Go.Proofs.Ytbmdjfolfmgmmag
open Go.ChangeShapes Go.WideShapes Go.ChangeAt Go.RowKit
set_option maxRecDepth 100000 in
theorem rgtake_form {w : World} {q : Addr} (p : PktM) (hz1 : p.sl.size ≤ 140737488355328) (hz2 : p.data.size ≤ 140737488355328) (hf : formOk p = false) :
    Calls Try.prog 15 #[.pointer (some q), p.val] w (RefPost w 3) := by
  obtain ⟨s, d, l⟩ := p
  dsimp only [PktM.val] at *
  have hb : Below w.heap.size w (w.alloc (.cells #[.int .i64 s, .string d, .string l] 43)) := (Below.refl _ w).alloc (Nat.le_refl _) _
  by_cases h1 : s < 0
  · clear hf
    go_enter Try.func15, Try.ntmps15
    go_wp2_with fail
    go_ret2
    exact ⟨rfl, hb⟩
  by_cases h2 : 4095 < s
  · clear hf
    go_enter Try.func15, Try.ntmps15
    go_wp2_with fail
    go_ret2
    exact ⟨rfl, hb⟩
  by_cases h3 : l.size = 3
  · by_cases h4 : 500 < d.size
    · clear hf
      go_enter Try.func15, Try.ntmps15
      go_wp2_with fail
      go_ret2
      exact ⟨rfl, hb⟩
    · exfalso
      unfold formOk at hf
      simp at hf
      omega
  · clear hf
    go_enter Try.func15, Try.ntmps15
    go_wp2_with fail
    go_ret2
    exact ⟨rfl, hb⟩
/-- What stands in Take, from a world on. -/
structure RkW (w w1 : World) (g : Nat) (vc vd : Value) (cs : List Nat) (dd : List ByteArray) (m : GcM) (p : PktM) : Prop where
  bel : Below w.heap.size w w1
  rc : PGt w1 g vc vd cs dd m
  pk : At w1 w.heap.size 43 [.int .i64 p.short, .string p.data, .string p.sl]
theorem RkW.next {w w1 w2 : World} {g : Nat} {vc vd : Value} {cs : List Nat} {dd : List ByteArray} {m : GcM} {p : PktM} (h : RkW w w1 g vc vd cs dd m p) (hb : Below w1.heap.size w1 w2) : RkW w w2 g vc vd cs dd m p := ⟨bthen h.bel hb, h.rc.kept (S := []) (Kept.of_below hb) (by simp), h.pk.kept (S := []) (Kept.of_below hb) (by simp)⟩
theorem RkW.first {w : World} {g : Nat} {vc vd : Value} {cs : List Nat} {dd : List ByteArray} {m : GcM} (p : PktM) (h : PGt w g vc vd cs dd m) : RkW w (w.alloc (.cells #[.int .i64 p.short, .string p.data, .string p.sl] 43)) g vc vd cs dd m p := by
  have hb : Below w.heap.size w (w.alloc (.cells #[.int .i64 p.short, .string p.data, .string p.sl] 43)) := (Below.refl _ w).alloc (Nat.le_refl _) _
  exact ⟨hb, h.kept (S := []) (Kept.of_below hb) (by simp), at_newG w _ _⟩
theorem cnt_way {f : Nat} {s : Int} (hs : 0 ≤ s ∧ s < 4096) : ∃ D : Nat, D < 4096 ∧ cntG f s = (f : Int) - 2048 + (D : Int) ∧ ∀ t : Nat, t ≤ D → ((((f : Int) - 2048 + (t : Int) + 8192) % 4096 != s) = decide (t < D)) := by
  refine ⟨((s + 2048 - (f : Int)) % 4096).toNat, by omega, ?_, fun t ht => ?_⟩
  · unfold cntG
    split <;> omega
  · by_cases h : t < ((s + 2048 - (f : Int)) % 4096).toNat
    · rw [decide_eq_true h]
      simp
      omega
    · rw [decide_eq_false h]
      simp
      omega
set_option maxRecDepth 100000 in
set_option maxHeartbeats 2000000 in
theorem rgtake_count {w : World} {g : Nat} {vc vd : Value} {cs : List Nat} {dd : List ByteArray} {m : GcM} (h : PGt w g vc vd cs dd m) (p : PktM) (hf : formOk p = true) (hi : cntIn m.fst p.short = false) :
    Calls Try.prog 15 #[.pointer (some ⟨g, 0, none⟩), p.val] w (RefPost w 3) := by
  obtain ⟨hs, hl3, hd5⟩ := formOk_bd hf
  have hT := RkW.first p h
  obtain ⟨D, hD, hcD, hstp⟩ := cnt_way (f := m.fst) hs
  have hfw := h.ok.few
  have c1 : (w.alloc (.cells #[.int .i64 p.short, .string p.data, .string p.sl] 43)).cell? ⟨g, 1, none⟩ = some (.int .i64 (m.fst : Int)) := hT.rc.hd.cell 1
  obtain ⟨F, eF⟩ : ∃ F : Int, F = (m.fst : Int) := ⟨_, rfl⟩
  rw [← eF] at c1 hcD hstp
  have hF : 0 ≤ F ∧ F ≤ 16777216 := by omega
  have HSTP := hid hstp
  have hout : F - 2048 + (D : Int) < 0 ∨ 16777215 < F - 2048 + (D : Int) := by
    have h1 := hi
    unfold cntIn at h1
    rw [hcD] at h1
    simp at h1
    omega
  have HB := hid hT.bel
  obtain ⟨s, d, l⟩ := p
  dsimp only [PktM.val] at *
  have hs' : ¬ (4095 < s) := by omega
  have hd' : ¬ (500 < d.size) := by omega
  have k0 : (w.alloc (.cells #[.int .i64 s, .string d, .string l] 43)).cell? ⟨w.heap.size, 0, none⟩ = some (.int .i64 s) := hT.pk.cell 0
  obtain ⟨w0, ew0⟩ : ∃ w0, w0 = w.alloc (.cells #[.int .i64 s, .string d, .string l] 43) := ⟨_, rfl⟩
  have HE0 := hid ew0.symm
  clear hf hi hcD hstp h hT eF hfw
  go_enter Try.func15, Try.ntmps15
  go_wp2_with fail
  rw [HE0.out]
  rw [← ew0] at c1 k0
  rw [← ew0] at HB
  clear ew0 HE0
  go_loopw [6] (fun v wr => ∃ t : Nat, t ≤ D ∧ v = .int .i64 (F - 2048 + (t : Int)) ∧ wr = w0) (fun v _ => D - (intOf v - (F - 2048)).toNat)
  case atStart => exact ⟨0, Nat.zero_le _, by simp, rfl⟩
  case round =>
    obtain ⟨t, ht, rfl, rfl⟩ := hrel
    have hst := HSTP.out t ht
    by_cases htD : t < D
    · rw [decide_eq_true htD] at hst
      go_wp2_with fail
      exact ⟨⟨t + 1, by omega, by go_num, by first | rfl | trivial⟩, by simp [intOf]; omega⟩
    · obtain rfl : t = D := by omega
      rw [decide_eq_false htD] at hst
      by_cases hneg : F - 2048 + (t : Int) < 0
      · go_wp2_with fail
        go_ret2
        exact ⟨rfl, HB.out⟩
      · have hbig : 16777215 < F - 2048 + (t : Int) := by omega
        go_wp2_with fail
        go_ret2
        exact ⟨rfl, HB.out⟩
set_option maxRecDepth 100000 in
set_option maxHeartbeats 2000000 in
theorem rgtake_seal {w : World} {g : Nat} {vc vd : Value} {cs : List Nat} {dd : List ByteArray} {m : GcM} (h : PGt w g vc vd cs dd m) (p : PktM) (hf : formOk p = true) (hi : cntIn m.fst p.short = true) (hsl : ¬ p.sl = sealG (m.cnt p) (m.opened p)) :
    Calls Try.prog 15 #[.pointer (some ⟨g, 0, none⟩), p.val] w (RefPost w 4) := by
  obtain ⟨hs, hl3, hd5⟩ := formOk_bd hf
  have hT := RkW.first p h
  obtain ⟨D, hD, hcD, hstp⟩ := cnt_way (f := m.fst) hs
  have hfw := h.ok.few
  have c1 : (w.alloc (.cells #[.int .i64 p.short, .string p.data, .string p.sl] 43)).cell? ⟨g, 1, none⟩ = some (.int .i64 (m.fst : Int)) := hT.rc.hd.cell 1
  have hcb := cntIn_bd hi
  obtain ⟨C, eC⟩ : ∃ C, C = m.cnt p := ⟨_, rfl⟩
  have hCi : cntG m.fst p.short = (C : Int) := by rw [eC]; unfold GcM.cnt; omega
  have hC : C < 16777216 := by omega
  have hcv := fun wz => rcovered_any p.data m.key C wz hd5 h.ok.key (by omega)
  have hse := fun wz => rsealing_any (m.opened p) C wz (by unfold GcM.opened; rw [hidG_size]; exact hd5) hC
  have eO : hidG p.data (seedG m.key C) = m.opened p := by rw [eC]; rfl
  rw [eO] at hcv
  rw [← eC] at hsl
  obtain ⟨F, eF⟩ : ∃ F : Int, F = (m.fst : Int) := ⟨_, rfl⟩
  rw [← eF] at c1 hcD hstp
  have hF : 0 ≤ F ∧ F ≤ 16777216 := by omega
  have HSTP := hid hstp
  rw [hCi] at hcD
  generalize m.opened p = X at *
  generalize sealG C X = L at *
  obtain ⟨M, eM⟩ : ∃ M : Int, M = (C : Int) := ⟨_, rfl⟩
  rw [← eM] at hcv hse hcD
  have hM : 0 ≤ M ∧ M < 16777216 := by omega
  obtain ⟨s, d, l⟩ := p
  dsimp only [PktM.val] at *
  have hs' : ¬ (4095 < s) := by omega
  have hd' : ¬ (500 < d.size) := by omega
  have k0 : (w.alloc (.cells #[.int .i64 s, .string d, .string l] 43)).cell? ⟨w.heap.size, 0, none⟩ = some (.int .i64 s) := hT.pk.cell 0
  obtain ⟨w0, ew0⟩ : ∃ w0, w0 = w.alloc (.cells #[.int .i64 s, .string d, .string l] 43) := ⟨_, rfl⟩
  have HE0 := hid ew0.symm
  have HT := hid hT
  have HCD := hid hcD
  have hnq := textNeG (fun e => hsl e.symm)
  clear hf hi hcD hstp h hT eF hfw eC hCi hC eO eM hsl hcb
  go_enter Try.func15, Try.ntmps15
  go_wp2_with fail
  rw [HE0.out]
  rw [← ew0] at c1 k0 HT
  clear ew0 HE0
  go_loopw [6] (fun v wr => ∃ t : Nat, t ≤ D ∧ v = .int .i64 (F - 2048 + (t : Int)) ∧ wr = w0) (fun v _ => D - (intOf v - (F - 2048)).toNat)
  case atStart => exact ⟨0, Nat.zero_le _, by simp, rfl⟩
  case round =>
    obtain ⟨t, ht, rfl, rfl⟩ := hrel
    have hst := HSTP.out t ht
    by_cases htD : t < D
    · rw [decide_eq_true htD] at hst
      go_wp2_with fail
      exact ⟨⟨t + 1, by omega, by go_num, by first | rfl | trivial⟩, by simp [intOf]; omega⟩
    · obtain rfl : t = D := by omega
      rw [decide_eq_false htD] at hst
      have hcm : F - 2048 + (t : Int) = M := HCD.out.symm
      have k1 : wr.cell? ⟨w.heap.size, 1, none⟩ = some (.string d) := HT.out.pk.cell 1
      have k2 : wr.cell? ⟨g, 0, none⟩ = some (.int .i64 m.key) := HT.out.rc.hd.cell 0
      rw [hcm] at hst ⊢
      clear htD ht
      go_upto_region 8 with fail
      go_region_held3 (fun w' => w'.cell? ⟨w.heap.size, 1, none⟩ = some (.string d) ∧ w'.cell? ⟨g, 0, none⟩ = some (.int .i64 m.key)) (first | exact ⟨k1, k2⟩ | exact ⟨y1, y2⟩ | go_keep) (first | (go_at_call 31; refine (hcv _).mono ?_; rintro e w3 ⟨rfl, hb3⟩; have HT3 := hid ((HT.out.next ((Below.refl _ wr).drew)).next hb3); have y1 : w3.cell? ⟨w.heap.size, 1, none⟩ = some (.string d) := HT3.out.pk.cell 1; have y2 : w3.cell? ⟨g, 0, none⟩ = some (.int .i64 m.key) := HT3.out.rc.hd.cell 0))
      have k3 : w3.cell? ⟨w.heap.size, 2, none⟩ = some (.string l) := HT3.out.pk.cell 2
      clear y1 y2 k1 k2 k0 c1 hcv hb3
      go_upto_region 9 with fail
      go_region_held3 (fun w' => w'.cell? ⟨w.heap.size, 2, none⟩ = some (.string l)) (first | exact k3 | exact y3 | go_keep) (first | (go_at_call 32; refine (hse _).mono ?_; rintro e w4 ⟨rfl, hb4⟩; have HT4 := hid ((HT3.out.next ((Below.refl _ w3).drew)).next hb4); have y3 : w4.cell? ⟨w.heap.size, 2, none⟩ = some (.string l) := HT4.out.pk.cell 2))
      clear k3 y3 hb4
      go_wp2_with fail
      go_ret2
      exact ⟨rfl, HT4.out.bel⟩
set_option maxRecDepth 100000 in
set_option maxHeartbeats 2000000 in
theorem rgtake_old {w : World} {g : Nat} {vc vd : Value} {cs : List Nat} {dd : List ByteArray} {m : GcM} (h : PGt w g vc vd cs dd m) (p : PktM) (hf : formOk p = true) (hi : cntIn m.fst p.short = true) (hsl : p.sl = sealG (m.cnt p) (m.opened p)) (ho : m.cnt p < m.fst) :
    Calls Try.prog 15 #[.pointer (some ⟨g, 0, none⟩), p.val] w (RefPost w 8) := by
  obtain ⟨hs, hl3, hd5⟩ := formOk_bd hf
  have hT := RkW.first p h
  obtain ⟨D, hD, hcD, hstp⟩ := cnt_way (f := m.fst) hs
  have hfw := h.ok.few
  have c1 : (w.alloc (.cells #[.int .i64 p.short, .string p.data, .string p.sl] 43)).cell? ⟨g, 1, none⟩ = some (.int .i64 (m.fst : Int)) := hT.rc.hd.cell 1
  have hcb := cntIn_bd hi
  obtain ⟨C, eC⟩ : ∃ C, C = m.cnt p := ⟨_, rfl⟩
  have hCi : cntG m.fst p.short = (C : Int) := by rw [eC]; unfold GcM.cnt; omega
  have hC : C < 16777216 := by omega
  have hcv := fun wz => rcovered_any p.data m.key C wz hd5 h.ok.key (by omega)
  have hse := fun wz => rsealing_any (m.opened p) C wz (by unfold GcM.opened; rw [hidG_size]; exact hd5) hC
  have eO : hidG p.data (seedG m.key C) = m.opened p := by rw [eC]; rfl
  rw [eO] at hcv
  rw [← eC] at hsl
  obtain ⟨F, eF⟩ : ∃ F : Int, F = (m.fst : Int) := ⟨_, rfl⟩
  rw [← eF] at c1 hcD hstp
  have hF : 0 ≤ F ∧ F ≤ 16777216 := by omega
  have HSTP := hid hstp
  rw [hCi] at hcD
  have ho' : (C : Int) < F := by omega
  generalize m.opened p = X at *
  generalize sealG C X = L at *
  obtain ⟨M, eM⟩ : ∃ M : Int, M = (C : Int) := ⟨_, rfl⟩
  rw [← eM] at hcv hse hcD
  have hM : 0 ≤ M ∧ M < 16777216 := by omega
  rw [← eM] at ho'
  obtain ⟨s, d, l⟩ := p
  dsimp only [PktM.val] at *
  have hs' : ¬ (4095 < s) := by omega
  have hd' : ¬ (500 < d.size) := by omega
  have k0 : (w.alloc (.cells #[.int .i64 s, .string d, .string l] 43)).cell? ⟨w.heap.size, 0, none⟩ = some (.int .i64 s) := hT.pk.cell 0
  obtain ⟨w0, ew0⟩ : ∃ w0, w0 = w.alloc (.cells #[.int .i64 s, .string d, .string l] 43) := ⟨_, rfl⟩
  have HE0 := hid ew0.symm
  have HT := hid hT
  have HCD := hid hcD
  subst hsl
  have HEF := hid eF
  clear hf hi hcD hstp h hT eF hfw eC hCi hC eO eM hcb ho
  go_enter Try.func15, Try.ntmps15
  go_wp2_with fail
  rw [HE0.out]
  rw [← ew0] at c1 k0 HT
  clear ew0 HE0
  go_loopw [6] (fun v wr => ∃ t : Nat, t ≤ D ∧ v = .int .i64 (F - 2048 + (t : Int)) ∧ wr = w0) (fun v _ => D - (intOf v - (F - 2048)).toNat)
  case atStart => exact ⟨0, Nat.zero_le _, by simp, rfl⟩
  case round =>
    obtain ⟨t, ht, rfl, rfl⟩ := hrel
    have hst := HSTP.out t ht
    by_cases htD : t < D
    · rw [decide_eq_true htD] at hst
      go_wp2_with fail
      exact ⟨⟨t + 1, by omega, by go_num, by first | rfl | trivial⟩, by simp [intOf]; omega⟩
    · obtain rfl : t = D := by omega
      rw [decide_eq_false htD] at hst
      have hcm : F - 2048 + (t : Int) = M := HCD.out.symm
      have k1 : wr.cell? ⟨w.heap.size, 1, none⟩ = some (.string d) := HT.out.pk.cell 1
      have k2 : wr.cell? ⟨g, 0, none⟩ = some (.int .i64 m.key) := HT.out.rc.hd.cell 0
      rw [hcm] at hst ⊢
      clear htD ht
      go_upto_region 8 with fail
      go_region_held3 (fun w' => w'.cell? ⟨w.heap.size, 1, none⟩ = some (.string d) ∧ w'.cell? ⟨g, 0, none⟩ = some (.int .i64 m.key)) (first | exact ⟨k1, k2⟩ | exact ⟨y1, y2⟩ | go_keep) (first | (go_at_call 31; refine (hcv _).mono ?_; rintro e w3 ⟨rfl, hb3⟩; have HT3 := hid ((HT.out.next ((Below.refl _ wr).drew)).next hb3); have y1 : w3.cell? ⟨w.heap.size, 1, none⟩ = some (.string d) := HT3.out.pk.cell 1; have y2 : w3.cell? ⟨g, 0, none⟩ = some (.int .i64 m.key) := HT3.out.rc.hd.cell 0))
      have k3 : w3.cell? ⟨w.heap.size, 2, none⟩ = some (.string l) := HT3.out.pk.cell 2
      clear y1 y2 k1 k2 k0 c1 hcv hb3
      go_upto_region 9 with fail
      go_region_held3 (fun w' => w'.cell? ⟨w.heap.size, 2, none⟩ = some (.string l)) (first | exact k3 | exact y3 | go_keep) (first | (go_at_call 32; refine (hse _).mono ?_; rintro e w4 ⟨rfl, hb4⟩; have HT4 := hid ((HT3.out.next ((Below.refl _ w3).drew)).next hb4); have y3 : w4.cell? ⟨w.heap.size, 2, none⟩ = some (.string l) := HT4.out.pk.cell 2))
      clear k3 y3 hb4
      have k4 : w4.cell? ⟨g, 1, none⟩ = some (.int .i64 F) := by rw [HEF.out]; exact HT4.out.rc.hd.cell 1
      go_wp2_with fail
      go_ret2
      exact ⟨rfl, HT4.out.bel⟩
/-- A row laid anew, and one more behind it. -/
theorem run_copyPush {w : World} {B : Nat} {t ty e : TypeId} {i : TypeInfo} {z : Value} {bytes : Nat} (ht : Try.prog.underlying t = some (.slice e)) (hi : Try.prog.info? e = some i) (hz : i.zero = some z) (hsize : i.size = 1) (hby : i.bytes = bytes) (hzs : z.cells.size = 1)
    {x : Value} {n : Nat} {ys : List Value} (hsrc : w.ownsRow B e 1 x n ys) (h1 : ∀ u ∈ ys, u.oneCell' = true) (nv : Value) (hnv : nv.oneCell' = true) (h63 : n + 1 ≤ maxLen) (hbytes : (n + 1) * bytes ≤ 140737488355328) :
    ∃ v1 w1, (Builtin.append_ #[t, t] ty #[.slice none 0 0, x]).run Try.prog w = .ok v1 w1 ∧ ∃ a2 c2 w2, (Builtin.append_ #[t, t] ty #[v1, .slice (some ⟨w1.heap.size, 0, none⟩) 1 1]).run Try.prog (w1.alloc (.cells #[nv] e)) = .ok (.slice a2 (n + 1) c2) w2 ∧ w2.ownsRow w.heap.size e 1 (.slice a2 (n + 1) c2) (n + 1) (ys ++ [nv]) ∧ Below w.heap.size w w2 ∧ (∃ a1 n1 c1, v1 = .slice a1 n1 c1) := by
  have hle : n * bytes ≤ (n + 1) * bytes := Nat.mul_le_mul_right _ (by omega)
  obtain ⟨v1, w1, hr1, ho1, hK1, hb1⟩ := run_joinG (w := w) (B := w.heap.size) (ty := ty) ht hi hz hsize hby hzs (by omega) (v := .slice none 0 0) (n := 0) (xs := []) ⟨rfl, .inl ⟨rfl, rfl⟩⟩ hsrc h1 (by omega) (by rw [Nat.zero_add]; omega) (Nat.le_refl _)
  rw [Nat.zero_add, List.nil_append] at ho1
  have hbel1 : Below w.heap.size w w1 := Kept.below hK1 (Nat.le_refl _) (fun y hy => by simp [ownB, Value.ownBlock] at hy)
  refine ⟨v1, w1, hr1, ?_⟩
  have ho1' := World.ownsRow.alloc ho1 (.cells #[nv] e)
  have hX := at_newG w1 e [nv]
  obtain ⟨v2, w2, hr2, ho2, hg2, _, _⟩ := run_append_own_at (P := Try.prog) _ w.heap.size t ty e i z 1 bytes ht hi hz hsize hby hzs (by omega) v1 n ys ho1' ⟨w1.heap.size, 0, none⟩ 1 1 [nv] rfl (fun j u hj => by
    rw [Addr.add_lit, Nat.zero_add, hX.cell]
    exact hj) (by simpa using hnv) h63 hbytes (by have := hbel1.size; rw [World.size_alloc]; omega)
  obtain ⟨a2, c2, rfl, -, -, -⟩ := row_shape ho2
  obtain ⟨a1, c1, rfl, -, -, -⟩ := row_shape ho1
  refine ⟨a2, c2, w2, hr2, ho2, ?_, ⟨_, _, _, rfl⟩⟩
  have hbel2 : Below w.heap.size w (w1.alloc (.cells #[nv] e)) := hbel1.alloc hbel1.size _
  exact below_keptG hbel2 (Kept.grownR hg2) (fun y hy => (row_new ho1' y hy).1)
theorem Try.infoNt : (Try.prog.info? 3).map (fun i => (i.zero, i.size, i.bytes)) = some (some (.int .i64 0), 1, 8) := by kernel_rfl
theorem cAt_snoc (cs : List Nat) (x i : Nat) : cAt (cs ++ [x]) i = if i = cs.length then x else cAt cs i := by
  unfold cAt
  by_cases h : i < cs.length
  · rw [if_neg (by omega)]
    simp [List.getD, List.getElem?_append_left h]
  · by_cases h2 : i = cs.length
    · subst h2
      simp [List.getD]
    · rw [if_neg h2]
      simp [List.getD, List.getElem?_eq_none (show (cs ++ [x]).length ≤ i by simp; omega), List.getElem?_eq_none (show cs.length ≤ i by omega)]
set_option maxRecDepth 100000 in
set_option maxHeartbeats 2000000 in
theorem rgtake_there {w : World} {g : Nat} {vc vd : Value} {cs : List Nat} {dd : List ByteArray} {m : GcM} (h : PGt w g vc vd cs dd m) (p : PktM) (hf : formOk p = true) (hi : cntIn m.fst p.short = true) (hsl : p.sl = sealG (m.cnt p) (m.opened p)) (ho : m.fst ≤ m.cnt p) (ht : (m.M (m.cnt p)).isSome = true) (hl : cs.length ≤ 1000000000) :
    Calls Try.prog 15 #[.pointer (some ⟨g, 0, none⟩), p.val] w (RefPost w 10) := by
  obtain ⟨hs, hl3, hd5⟩ := formOk_bd hf
  have hT := RkW.first p h
  obtain ⟨D, hD, hcD, hstp⟩ := cnt_way (f := m.fst) hs
  have hfw := h.ok.few
  have c1 : (w.alloc (.cells #[.int .i64 p.short, .string p.data, .string p.sl] 43)).cell? ⟨g, 1, none⟩ = some (.int .i64 (m.fst : Int)) := hT.rc.hd.cell 1
  have hcb := cntIn_bd hi
  obtain ⟨C, eC⟩ : ∃ C, C = m.cnt p := ⟨_, rfl⟩
  have hCi : cntG m.fst p.short = (C : Int) := by rw [eC]; unfold GcM.cnt; omega
  have hC : C < 16777216 := by omega
  have hcv := fun wz => rcovered_any p.data m.key C wz hd5 h.ok.key (by omega)
  have hse := fun wz => rsealing_any (m.opened p) C wz (by unfold GcM.opened; rw [hidG_size]; exact hd5) hC
  have eO : hidG p.data (seedG m.key C) = m.opened p := by rw [eC]; rfl
  rw [eO] at hcv
  rw [← eC] at hsl
  obtain ⟨F, eF⟩ : ∃ F : Int, F = (m.fst : Int) := ⟨_, rfl⟩
  rw [← eF] at c1 hcD hstp
  have hF : 0 ≤ F ∧ F ≤ 16777216 := by omega
  have HSTP := hid hstp
  rw [hCi] at hcD
  have ho' : ¬ (C : Int) < F := by omega
  obtain ⟨i1, hi1, hc1⟩ : ∃ i, i < cs.length ∧ cAt cs i = C := by
    obtain ⟨x, hx⟩ := Option.isSome_iff_exists.1 ht
    rw [← eC] at hx ho
    obtain ⟨i, a, b, _⟩ := (h.look C ho x).1 hx
    exact ⟨i, a, b⟩
  generalize m.opened p = X at *
  generalize sealG C X = L at *
  obtain ⟨M, eM⟩ : ∃ M : Int, M = (C : Int) := ⟨_, rfl⟩
  rw [← eM] at hcv hse hcD
  have hM : 0 ≤ M ∧ M < 16777216 := by omega
  rw [← eM] at ho'
  have hc1' : ((cAt cs i1 : Nat) : Int) = M := by rw [hc1, eM]
  obtain ⟨ac, cc, rfl, -, -, -⟩ := row_shape h.rowc
  obtain ⟨N, eN⟩ : ∃ N, N = cs.length := ⟨_, rfl⟩
  obtain ⟨s, d, l⟩ := p
  dsimp only [PktM.val] at *
  have hs' : ¬ (4095 < s) := by omega
  have hd' : ¬ (500 < d.size) := by omega
  have k0 : (w.alloc (.cells #[.int .i64 s, .string d, .string l] 43)).cell? ⟨w.heap.size, 0, none⟩ = some (.int .i64 s) := hT.pk.cell 0
  obtain ⟨w0, ew0⟩ : ∃ w0, w0 = w.alloc (.cells #[.int .i64 s, .string d, .string l] 43) := ⟨_, rfl⟩
  have HE0 := hid ew0.symm
  have HT := hid hT
  have HCD := hid hcD
  subst hsl
  have HEF := hid eF
  have HEN := hid eN
  have hi1' : i1 < N := by rw [eN]; exact hi1
  have hN9 : N ≤ 1000000000 := by omega
  clear hf hi hcD hstp h hT eF hfw eC hCi hC eO eM hcb ho ht eN hi1 hc1 hl
  go_enter Try.func15, Try.ntmps15
  go_wp2_with fail
  rw [HE0.out]
  rw [← ew0] at c1 k0 HT
  clear ew0 HE0
  go_loopw [6] (fun v wr => ∃ t : Nat, t ≤ D ∧ v = .int .i64 (F - 2048 + (t : Int)) ∧ wr = w0) (fun v _ => D - (intOf v - (F - 2048)).toNat)
  case atStart => exact ⟨0, Nat.zero_le _, by simp, rfl⟩
  case round =>
    obtain ⟨t, ht, rfl, rfl⟩ := hrel
    have hst := HSTP.out t ht
    by_cases htD : t < D
    · rw [decide_eq_true htD] at hst
      go_wp2_with fail
      exact ⟨⟨t + 1, by omega, by go_num, by first | rfl | trivial⟩, by simp [intOf]; omega⟩
    · obtain rfl : t = D := by omega
      rw [decide_eq_false htD] at hst
      have hcm : F - 2048 + (t : Int) = M := HCD.out.symm
      have k1 : wr.cell? ⟨w.heap.size, 1, none⟩ = some (.string d) := HT.out.pk.cell 1
      have k2 : wr.cell? ⟨g, 0, none⟩ = some (.int .i64 m.key) := HT.out.rc.hd.cell 0
      rw [hcm] at hst ⊢
      clear htD ht
      go_upto_region 8 with fail
      go_region_held3 (fun w' => w'.cell? ⟨w.heap.size, 1, none⟩ = some (.string d) ∧ w'.cell? ⟨g, 0, none⟩ = some (.int .i64 m.key)) (first | exact ⟨k1, k2⟩ | exact ⟨y1, y2⟩ | go_keep) (first | (go_at_call 31; refine (hcv _).mono ?_; rintro e w3 ⟨rfl, hb3⟩; have HT3 := hid ((HT.out.next ((Below.refl _ wr).drew)).next hb3); have y1 : w3.cell? ⟨w.heap.size, 1, none⟩ = some (.string d) := HT3.out.pk.cell 1; have y2 : w3.cell? ⟨g, 0, none⟩ = some (.int .i64 m.key) := HT3.out.rc.hd.cell 0))
      have k3 : w3.cell? ⟨w.heap.size, 2, none⟩ = some (.string l) := HT3.out.pk.cell 2
      clear y1 y2 k1 k2 k0 c1 hcv hb3
      go_upto_region 9 with fail
      go_region_held3 (fun w' => w'.cell? ⟨w.heap.size, 2, none⟩ = some (.string l)) (first | exact k3 | exact y3 | go_keep) (first | (go_at_call 32; refine (hse _).mono ?_; rintro e w4 ⟨rfl, hb4⟩; have HT4 := hid ((HT3.out.next ((Below.refl _ w3).drew)).next hb4); have y3 : w4.cell? ⟨w.heap.size, 2, none⟩ = some (.string l) := HT4.out.pk.cell 2))
      clear k3 y3 hb4
      have k4 : w4.cell? ⟨g, 1, none⟩ = some (.int .i64 F) := by rw [HEF.out]; exact HT4.out.rc.hd.cell 1
      have k5 : w4.cell? ⟨g, 2, none⟩ = some (.slice ac N cc) := by rw [HEN.out]; exact HT4.out.rc.hd.cell 2
      obtain ⟨gc, rfl, hcel⟩ := row_nats HT4.out.rc.rowc (i := i1) (by rw [← HEN.out]; exact hi1')
      have HCEL := hid hcel
      clear hcel
      go_wp2_with fail
      go_loopw [8] (fun v wz => ∃ j : Nat, j ≤ i1 ∧ v = .int .i64 j ∧ wz = w4) (fun v _ => N - (intOf v).toNat)
      case atStart => exact ⟨0, Nat.zero_le _, rfl, rfl⟩
      case round =>
        obtain ⟨j, hj, rfl, rfl⟩ := hrel
        have cj := HCEL.out j (by rw [← HEN.out]; omega)
        have hjN : j < N := by omega
        by_cases e : ((cAt cs j : Nat) : Int) = M
        · rw [e] at cj
          go_wp2_with fail
          go_ret2
          exact ⟨rfl, HT4.out.bel⟩
        · have hji : j < i1 := by
            rcases Nat.lt_or_ge j i1 with q | q
            · exact q
            · have : j = i1 := by omega
              subst this
              exact absurd hc1' e
          have eb : (((cAt cs j : Nat) : Int) == M) = false := by simpa using e
          generalize cAt cs j = Y at *
          go_wp2_with fail
          exact ⟨⟨j + 1, by omega, by go_num, by first | rfl | trivial⟩, by simp [intOf]; omega⟩
end Go.Proofs.Ytbmdjfolfmgmmag
