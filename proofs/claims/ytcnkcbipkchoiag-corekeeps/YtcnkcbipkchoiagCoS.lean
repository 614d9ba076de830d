import Derived.Test.YtcnkcbipkchoiagCoR
namespace Go.Proofs.Ytcnkcbipkchoiag
open Go.ChangeShapes Go.WideShapes Go.ChangeAt Go.RowKit Go.Maps

/-! THE PROGRAM'S Report, walked. -/

theorem In64.of {k a b : Int} (h1 : a ≤ k) (h2 : k ≤ b) (ha : -9223372036854775808 ≤ a) (hb : b ≤ 9223372036854775807) : In64 k := ⟨by omega, by omega⟩
set_option maxRecDepth 100000 in
set_option maxHeartbeats 2000000 in
theorem creport_absent {w : World} {c : Nat} {F : List Nat} {m : CoM} {n : Nat} {g t b : Int} {f : Bool} (h : PCo w c F m n) (hg : In64 g) (he : ¬ (1 ≤ g ∧ g ≤ (m.loans.length : Int))) : Calls Try.prog 34 #[ptrV c, usageV g t b f] w (StepC w c F (m.report g t b f) n) := by
  obtain ⟨N, rfl, h⟩ := h
  have hE : m.repErr g t b = 6 := by unfold CoM.repErr; rw [if_neg he]
  have hR : m.report g t b f = ⟨m, 6⟩ := by unfold CoM.report; rw [hE]; rfl
  have hlen := h.ok.len
  obtain ⟨W, eW⟩ : ∃ W, W = w.alloc (.cells #[.int .i64 g, .int .i64 t, .int .i64 b, .bool f] 70) := ⟨_, rfl⟩
  have hkW : Kept [] w W := by rw [eW]; exact (Kept.refl _ w).alloc _
  have hUW : At W w.heap.size 70 [.int .i64 g, .int .i64 t, .int .i64 b, .bool f] := by rw [eW]; exact at_alloc w _ [.int .i64 g, .int .i64 t, .int .i64 b, .bool f]
  have u0 : W.cell? ⟨w.heap.size, 0, none⟩ = some (.int .i64 g) := hUW.cell 0
  have c2 := (h.kept hkW (by simp)).head.2.2
  have HP : Hid (StepC w c (coF c N m) (m.report g t b f) n (.returned (.int .i64 6)) W.drew) := hid (by
    rw [hR]
    exact ⟨rfl, (hkW.wider (by simp)).drew, _, ⟨N, rfl, ((h.kept hkW (by simp)).kept (T := []) (Kept.refl _ W).drew (by simp))⟩, fun x hx => .inl hx⟩)
  generalize StepC w c (coF c N m) (m.report g t b f) n = P at *
  generalize m.loans.length = LL at *
  clear h hE hR hUW
  unfold ptrV usageV at *
  unfold In64 at hg
  by_cases g1 : g < 1
  · clear he
    go_enter Try.func34, Try.ntmps34
    go_upto_region 1 with fail
    rw [← eW]
    clear eW
    go_region
    go_wp2_with fail
    exact HP.out
  · have g2 : (LL : Int) < g := by omega
    clear he
    go_enter Try.func34, Try.ntmps34
    go_upto_region 1 with fail
    rw [← eW]
    clear eW
    go_region
    go_wp2_with fail
    exact HP.out
set_option maxRecDepth 100000 in
set_option maxHeartbeats 2000000 in
theorem creport_bad {w : World} {c : Nat} {F : List Nat} {m : CoM} {n : Nat} {g t b : Int} {f : Bool} (h : PCo w c F m n) (ht : In64 t) (hb : In64 b) (hn : n < manyN) (hg : 1 ≤ g ∧ g ≤ (m.loans.length : Int)) (he : m.repErr g t b ≠ 0) : Calls Try.prog 34 #[ptrV c, usageV g t b f] w (StepC w c F (m.report g t b f) n) := by
  obtain ⟨N, rfl, h⟩ := h
  have hR : m.report g t b f = ⟨m, m.repErr g t b⟩ := by unfold CoM.report; rw [if_neg he]
  have hlen := h.ok.len
  have hn' : n < 8796093022208 := hn
  obtain ⟨i, ei⟩ : ∃ i : Nat, g = (i : Int) + 1 := ⟨g.toNat - 1, by omega⟩
  have hi : i < m.loans.length := by omega
  obtain ⟨gb, cur, hga, -⟩ := h.grant hi
  obtain ⟨W, eW⟩ : ∃ W, W = w.alloc (.cells #[.int .i64 g, .int .i64 t, .int .i64 b, .bool f] 70) := ⟨_, rfl⟩
  have hkW : Kept [] w W := by rw [eW]; exact (Kept.refl _ w).alloc _
  have hUW : At W w.heap.size 70 [.int .i64 g, .int .i64 t, .int .i64 b, .bool f] := by rw [eW]; exact at_alloc w _ [.int .i64 g, .int .i64 t, .int .i64 b, .bool f]
  have hbW : Below w.heap.size w W.drew.drew := by rw [eW]; exact ((Below.refl _ w).alloc (Nat.le_refl _) _).drew.drew
  have u0 : W.cell? ⟨w.heap.size, 0, none⟩ = some (.int .i64 g) := hUW.cell 0
  have u1 : W.cell? ⟨w.heap.size, 1, none⟩ = some (.int .i64 t) := hUW.cell 1
  have u2 : W.cell? ⟨w.heap.size, 2, none⟩ = some (.int .i64 b) := hUW.cell 2
  have u3 : W.cell? ⟨w.heap.size, 3, none⟩ = some (.bool f) := hUW.cell 3
  have hW := h.kept hkW (by simp)
  have c2 := hW.head.2.2
  rw [hga] at c2
  have hW2 := hW.kept (T := []) (Kept.refl _ W).drew.drew (by simp)
  have hck := ccheck_any (f := f) hW2 hi ei hga (by unfold In64; omega) ht hb (by unfold manyN; omega)
  have HP : Hid (∀ w3, Below W.drew.drew.heap.size W.drew.drew w3 → StepC w c (coF c N m) (m.report g t b f) n (.returned (.int .i64 (m.repErr g t b))) w3) := hid fun w3 hb3 => by
    rw [hR]
    have hb' := bthen hbW hb3
    exact ⟨rfl, Kept.of_below hb', _, ⟨N, rfl, h.kept (Kept.of_below (S := []) hb') (by simp)⟩, fun x hx => .inl hx⟩
  generalize StepC w c (coF c N m) (m.report g t b f) n = P at *
  generalize m.repErr g t b = E at *
  generalize hLL : m.loans.length = LL at *
  clear h hR hUW hW hW2 hga hLL hb ht
  unfold ptrV usageV at *
  have ei2 : g - 1 = (i : Int) := by omega
  have hg1 : ¬ g < 1 := by omega
  have hg2 : ¬ (LL : Int) < g := by omega
  have hg3 := hg.1
  have hg4 := hg.2
  clear hg ei
  go_enter Try.func34, Try.ntmps34
  go_upto_region 1 with fail
  rw [← eW]
  clear eW
  go_region
  go_upto_region 3 with fail
  go_region
  go_wp2_with (go_at_call 82; refine hck.mono ?_; rintro e w3 ⟨rfl, hb3⟩)
  exact HP.out w3 hb3
end Go.Proofs.Ytcnkcbipkchoiag
