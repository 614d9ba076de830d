import Derived.Test.YtcnkcbipkchoiagK21
import Derived.Test.YtcnkcbipkchoiagK18
import Derived.Test.YtcnkcbipkchoiagK19
namespace Go.Proofs.Ytcnkcbipkchoiag
open Go.ChangeShapes Go.WideShapes Go.ChangeAt Go.RowKit
set_option maxRecDepth 100000 in
set_option maxHeartbeats 8000000 in
theorem rreport_any {w : World} {r : Nat} {F : List Nat} {m : CoM} {n : Nat} {g t b : Int} {f : Bool} (h : RCo w r F m n) (hg : In64 g) (ht : In64 t) (hb : In64 b) (hn : n < manyN) : Calls Try.prog 74 #[ptrV r, usageV g t b f] w (StepR w r F (m.report g t b f) (n + 1)) := by
  obtain ⟨la, lc, pe, rfl, h⟩ := h
  have hlen := h.ok.len
  have hn' : n < 8796093022208 := hn
  obtain ⟨W, eW⟩ : ∃ W, W = w.alloc (.cells #[.int .i64 g, .int .i64 t, .int .i64 b, .bool f] 70) := ⟨_, rfl⟩
  have hkW : Kept [] w W := by rw [eW]; exact (Kept.refl _ w).alloc _
  have hUW : At W w.heap.size 70 [.int .i64 g, .int .i64 t, .int .i64 b, .bool f] := by rw [eW]; exact at_alloc w _ [.int .i64 g, .int .i64 t, .int .i64 b, .bool f]
  have u0 : W.cell? ⟨w.heap.size, 0, none⟩ = some (.int .i64 g) := hUW.cell 0
  have u1 : W.cell? ⟨w.heap.size, 1, none⟩ = some (.int .i64 t) := hUW.cell 1
  have u2 : W.cell? ⟨w.heap.size, 2, none⟩ = some (.int .i64 b) := hUW.cell 2
  have u3 : W.cell? ⟨w.heap.size, 3, none⟩ = some (.bool f) := hUW.cell 3
  have hW := h.kept hkW (by simp)
  have c86 := hW.head.2
  have hbad : ∀ E, E ≠ 0 → m.repErr g t b = E → ∀ w', Kept [] w w' → StepR w r (rfF r la) (m.report g t b f) (n + 1) (.returned (.int .i64 E)) w' := fun E hE he w' hk => by
    have : m.report g t b f = ⟨m, E⟩ := by unfold CoM.report; rw [he, if_neg hE]
    rw [this]
    exact StepR.bad (h.mono (by omega)) hk
  unfold In64 at hg ht hb
  by_cases hr : 1 ≤ g ∧ g ≤ (m.loans.length : Int)
  · obtain ⟨i, ei⟩ : ∃ i : Nat, g = (i : Int) + 1 := ⟨g.toNat - 1, by omega⟩
    have hi : i < m.loans.length := by omega
    obtain ⟨L, eL⟩ : ∃ L, L = m.at g := ⟨_, rfl⟩
    have eat : m.loans.getD i .zero = L := by rw [eL]; unfold CoM.at; rw [show g.toNat - 1 = i by omega]
    obtain ⟨lb, ela, hC⟩ := rowLo_at hW.ln rfl hi
    rw [eat] at hC
    obtain ⟨-, hub, hby, htn⟩ := h.ok.ln L (by rw [← eat]; exact getD_memL hi)
    have hRe : m.repErr g t b = if 1 ≤ t ∧ t ≤ (L.turn : Int) then 10 else if t = (L.turn : Int) + 1 then (if L.shut = true then 9 else if 0 ≤ b ∧ b ≤ ((L.bytes - L.used : Nat) : Int) then 0 else 11) else 3 := by
      unfold CoM.repErr
      rw [if_pos hr, ← eL]
    have c1 := hC.c1
    have c2 := hC.c2
    have c3 := hC.c3
    have c4 := hC.c4
    have f2 := hC.fr (i * 5 + 2)
    have f3 := hC.fr (i * 5 + 3)
    have f4 := hC.fr (i * 5 + 4)
    have hlw : w.heap.size ≠ lb := by
      have := (h.addr ela)
      obtain ⟨g', e, hl⟩ := this
      injection e with e
      omega
    have hgood : m.repErr g t b = 0 → StepR w r (rfF r la) (m.report g t b f) (n + 1) (.returned (.int .i64 0)) ((((W.setCell ⟨lb, i * 5 + 3, none⟩ (.int .i64 t)).setCell ⟨lb, i * 5 + 2, none⟩ (.int .i64 ((L.used : Int) + b))).setCell ⟨lb, i * 5 + 4, none⟩ (.bool f)).drew.drew.drew.drew.drew.drew) := fun he => by
      have hR : m.report g t b f = ⟨m.rep g b f, 0⟩ := by unfold CoM.report; rw [if_pos he]
      have hc := CoM.rep_ok he
      have hok := h.ok.rep (fin := f) he
      have ht1 : t = ((L.turn + 1 : Nat) : Int) := by have := hc.t1; rw [← eL] at this; omega
      have hb0 := hc.b0
      have hlm : (m.rep g b f).loans = m.loans.set i ⟨L.who, L.bytes, L.used + b.toNat, L.turn + 1, f⟩ := by unfold CoM.rep; rw [show g.toNat - 1 = i by omega, ← eL]
      have hll : (m.rep g b f).loans.length = m.loans.length := by rw [hlm, List.length_set]
      have s1 := rowLo_set (f := 3) (v := .int .i64 t) (x := ⟨L.who, L.bytes, L.used, L.turn + 1, L.shut⟩) (by have := hW.ln; rw [ela] at this; exact this) rfl hi (by omega) (by rw [eat, ht1]; rfl)
      have e1 : (m.loans.set i ⟨L.who, L.bytes, L.used, L.turn + 1, L.shut⟩).length = m.loans.length := List.length_set ..
      have s2 := rowLo_set (f := 2) (v := .int .i64 ((L.used : Int) + b)) (x := ⟨L.who, L.bytes, L.used + b.toNat, L.turn + 1, L.shut⟩) s1 e1.symm (by rw [e1]; exact hi) (by omega) (by
        rw [getD_setLS hi, show (L.used : Int) + b = ((L.used + b.toNat : Nat) : Int) by omega]
        rfl)
      rw [List.set_set] at s2
      have e2 : (m.loans.set i ⟨L.who, L.bytes, L.used + b.toNat, L.turn + 1, L.shut⟩).length = m.loans.length := List.length_set ..
      have s3 := rowLo_set (f := 4) (v := .bool f) (x := ⟨L.who, L.bytes, L.used + b.toNat, L.turn + 1, f⟩) s2 e2.symm (by rw [e2]; exact hi) (by omega) (by rw [getD_setLS hi]; rfl)
      rw [List.set_set] at s3
      have hkk : Kept [lb] W (((W.setCell ⟨lb, i * 5 + 3, none⟩ (.int .i64 t)).setCell ⟨lb, i * 5 + 2, none⟩ (.int .i64 ((L.used : Int) + b))).setCell ⟨lb, i * 5 + 4, none⟩ (.bool f)) := (((Kept.refl _ W).setCell (by simp) _).setCell (by simp) _).setCell (by simp) _
      have hnb : lb ≠ r := h.nb _ ela
      rw [hR]
      refine ⟨rfl, (((hkW.wider (by simp)).trans (hkk.wider (by simpa using rfF_l (r := r) ela))).drew.drew.drew.drew.drew.drew), _, ⟨la, lc, pe, rfl, ?_, ?_, h.nb, h.rl, hok⟩, fun x hx => .inl hx⟩
      · show FnA _ 87 _ r (rcF (m.unit : Int) pe (.slice la (m.rep g b f).loans.length lc))
        rw [hll]
        exact At.kept (At.kept hW.hd hkk (by simpa using fun e => hnb e.symm)) (S := []) (Kept.refl _ _).drew.drew.drew.drew.drew.drew (by simp)
      · show World.ownsRow _ 0 _ 5 (.slice la (m.rep g b f).loans.length lc) (m.rep g b f).loans.length (cellsLo (m.rep g b f).loans)
        rw [hll, hlm, ela]
        exact keptRow s3 (Kept.refl [] _).drew.drew.drew.drew.drew.drew (by simp)
    have HG := hid hgood
    have HBAD := hid hbad
    rw [ela] at c86
    generalize StepR w r (rfF r la) (m.report g t b f) (n + 1) = P at *
    generalize hLLn : m.loans.length = LL at *
    have e1 : ¬ g < 1 := by omega
    have e2 : ¬ (LL : Int) < g := by omega
    have e3 : g - 1 = (i : Int) := by omega
    have hT : (0 : Int) ≤ (L.turn : Int) ∧ (L.turn : Int) ≤ 8796093022208 := by omega
    have hBU : (0 : Int) ≤ (L.bytes : Int) - (L.used : Int) ∧ (L.bytes : Int) ≤ 1000000 := by omega
    have hBE : ((L.bytes - L.used : Nat) : Int) = (L.bytes : Int) - (L.used : Int) := by omega
    rw [hBE] at hRe
    clear h hW hC hgood hbad eL eat ei hUW hLLn hlen hBE htn
    unfold ptrV usageV at *
    have HKW := hid hkW
    have HRE := hid hRe
    clear hkW hRe
    by_cases a1 : 0 < t
    · by_cases a2 : t ≤ (L.turn : Int)
      · have HP := hid (HBAD.out 10 (by simp) (by rw [HRE.out, if_pos ⟨by omega, a2⟩]) W.drew.drew.drew HKW.out.drew.drew.drew)
        go_enter Try.func74, Try.ntmps74
        go_upto_region 1 with fail
        rw [← eW]
        clear eW
        go_region
        go_upto_region 3 with fail
        go_region
        go_upto_region 4 with fail
        go_region
        go_wp2_with fail
        exact HP.out
      · by_cases a3 : t = (L.turn : Int) + 1
        · subst a3
          cases hs : L.shut with
          | true =>
            rw [hs] at c4
            have HP := hid (HBAD.out 9 (by simp) (by rw [HRE.out, if_neg (by omega), if_pos rfl, hs, if_pos rfl]) W.drew.drew.drew.drew HKW.out.drew.drew.drew.drew)
            go_enter Try.func74, Try.ntmps74
            go_upto_region 1 with fail
            rw [← eW]
            clear eW
            go_region
            go_upto_region 3 with fail
            go_region
            go_upto_region 4 with fail
            go_region
            go_upto_region 6 with fail
            go_region
            go_wp2_with fail
            exact HP.out
          | false =>
            rw [hs] at c4 HRE
            by_cases b1 : b < 0
            · have HP := hid (HBAD.out 11 (by simp) (by rw [HRE.out, if_neg (by omega), if_pos rfl, if_neg (by simp), if_neg (by omega)]) W.drew.drew.drew.drew.drew HKW.out.drew.drew.drew.drew.drew)
              go_enter Try.func74, Try.ntmps74
              go_upto_region 1 with fail
              rw [← eW]
              clear eW
              go_region
              go_upto_region 3 with fail
              go_region
              go_upto_region 4 with fail
              go_region
              go_upto_region 6 with fail
              go_region
              go_upto_region 10 with fail
              go_region
              go_wp2_with fail
              exact HP.out
            · by_cases b2 : (L.bytes : Int) - (L.used : Int) < b
              · have HP := hid (HBAD.out 11 (by simp) (by rw [HRE.out, if_neg (by omega), if_pos rfl, if_neg (by simp), if_neg (by omega)]) W.drew.drew.drew.drew.drew HKW.out.drew.drew.drew.drew.drew)
                go_enter Try.func74, Try.ntmps74
                go_upto_region 1 with fail
                rw [← eW]
                clear eW
                go_region
                go_upto_region 3 with fail
                go_region
                go_upto_region 4 with fail
                go_region
                go_upto_region 6 with fail
                go_region
                go_upto_region 10 with fail
                go_region
                go_wp2_with fail
                exact HP.out
              · have HP := hid (HG.out (by rw [HRE.out, if_neg (by omega), if_pos rfl, if_neg (by simp), if_pos (by omega)]))
                have hbu : (L.used : Int) + b ≤ 1000000 := by omega
                clear HG HBAD
                go_enter Try.func74, Try.ntmps74
                go_upto_region 1 with fail
                rw [← eW]
                clear eW
                go_region
                go_upto_region 3 with fail
                go_region
                go_upto_region 4 with fail
                go_region
                go_upto_region 6 with fail
                go_region
                go_upto_region 10 with fail
                go_region
                go_upto_region 13 with fail
                go_region
                go_wp2_with fail
                exact HP.out
        · have HP := hid (HBAD.out 3 (by simp) (by rw [HRE.out, if_neg (by omega), if_neg a3]) W.drew.drew.drew.drew HKW.out.drew.drew.drew.drew)
          go_enter Try.func74, Try.ntmps74
          go_upto_region 1 with fail
          rw [← eW]
          clear eW
          go_region
          go_upto_region 3 with fail
          go_region
          go_upto_region 4 with fail
          go_region
          go_upto_region 6 with fail
          go_region
          go_wp2_with fail
          exact HP.out
    · have a3 : ¬ t = (L.turn : Int) + 1 := by omega
      have HP := hid (HBAD.out 3 (by simp) (by rw [HRE.out, if_neg (by omega), if_neg a3]) W.drew.drew.drew.drew HKW.out.drew.drew.drew.drew)
      go_enter Try.func74, Try.ntmps74
      go_upto_region 1 with fail
      rw [← eW]
      clear eW
      go_region
      go_upto_region 3 with fail
      go_region
      go_upto_region 4 with fail
      go_region
      go_upto_region 6 with fail
      go_region
      go_wp2_with fail
      exact HP.out
  · have hE : m.repErr g t b = 6 := by unfold CoM.repErr; rw [if_neg hr]
    have HP := hid (hbad 6 (by simp) hE W.drew hkW.drew)
    generalize StepR w r (rfF r la) (m.report g t b f) (n + 1) = P at *
    generalize m.loans.length = LL at *
    clear h hE hbad hUW hW
    unfold ptrV usageV at *
    by_cases g1 : g < 1
    · clear hr
      go_enter Try.func74, Try.ntmps74
      go_upto_region 1 with fail
      rw [← eW]
      clear eW
      go_region
      go_wp2_with fail
      exact HP.out
    · have g2 : (LL : Int) < g := by omega
      clear hr
      go_enter Try.func74, Try.ntmps74
      go_upto_region 1 with fail
      rw [← eW]
      clear eW
      go_region
      go_wp2_with fail
      exact HP.out
end Go.Proofs.Ytcnkcbipkchoiag
namespace Go.Proofs.Ytcnkcbipkchoiag
open Go.ChangeShapes Go.WideShapes Go.ChangeAt Go.RowKit Go.Maps
theorem In64.of {k a b : Int} (h1 : a ≤ k) (h2 : k ≤ b) (ha : -9223372036854775808 ≤ a) (hb : b ≤ 9223372036854775807) : In64 k := ⟨by omega, by omega⟩
set_option maxRecDepth 100000 in
set_option maxHeartbeats 2000000 in
theorem creport_absent {w : World} {c : Nat} {F : List Nat} {m : CoM} {n : Nat} {g t b : Int} {f : Bool} (h : PCo w c F m n) (hg : In64 g) (he : ¬ (1 ≤ g ∧ g ≤ (m.loans.length : Int))) : Calls Try.prog 34 #[ptrV c, usageV g t b f] w (StepC w c F (m.report g t b f) n) := by
  obtain ⟨N, rfl, h⟩ := h
  have hE : m.repErr g t b = 6 := by unfold CoM.repErr; rw [if_neg he]
  have hR : m.report g t b f = ⟨m, 6⟩ := by unfold CoM.report; rw [hE]; rfl
  have hlen := h.ok.len
  obtain ⟨W, eW⟩ : ∃ W, W = w.alloc (.cells #[.int .i64 g, .int .i64 t, .int .i64 b, .bool f] 70) := ⟨_, rfl⟩
  have hkW : Kept [] w W := by rw [eW]; exact (Kept.refl _ w).alloc _
  have hUW : At W w.heap.size 70 [.int .i64 g, .int .i64 t, .int .i64 b, .bool f] := by rw [eW]; exact at_alloc w _ [.int .i64 g, .int .i64 t, .int .i64 b, .bool f]
  have u0 : W.cell? ⟨w.heap.size, 0, none⟩ = some (.int .i64 g) := hUW.cell 0
  have c2 := (h.kept hkW (by simp)).head.2.2
  have HP : Hid (StepC w c (coF c N m) (m.report g t b f) n (.returned (.int .i64 6)) W.drew) := hid (by
    rw [hR]
    exact ⟨rfl, (hkW.wider (by simp)).drew, _, ⟨N, rfl, ((h.kept hkW (by simp)).kept (T := []) (Kept.refl _ W).drew (by simp))⟩, fun x hx => .inl hx⟩)
  generalize StepC w c (coF c N m) (m.report g t b f) n = P at *
  generalize m.loans.length = LL at *
  clear h hE hR hUW
  unfold ptrV usageV at *
  unfold In64 at hg
  by_cases g1 : g < 1
  · clear he
    go_enter Try.func34, Try.ntmps34
    go_upto_region 1 with fail
    rw [← eW]
    clear eW
    go_region
    go_wp2_with fail
    exact HP.out
  · have g2 : (LL : Int) < g := by omega
    clear he
    go_enter Try.func34, Try.ntmps34
    go_upto_region 1 with fail
    rw [← eW]
    clear eW
    go_region
    go_wp2_with fail
    exact HP.out
set_option maxRecDepth 100000 in
set_option maxHeartbeats 2000000 in
theorem creport_bad {w : World} {c : Nat} {F : List Nat} {m : CoM} {n : Nat} {g t b : Int} {f : Bool} (h : PCo w c F m n) (ht : In64 t) (hb : In64 b) (hn : n < manyN) (hg : 1 ≤ g ∧ g ≤ (m.loans.length : Int)) (he : m.repErr g t b ≠ 0) : Calls Try.prog 34 #[ptrV c, usageV g t b f] w (StepC w c F (m.report g t b f) n) := by
  obtain ⟨N, rfl, h⟩ := h
  have hR : m.report g t b f = ⟨m, m.repErr g t b⟩ := by unfold CoM.report; rw [if_neg he]
  have hlen := h.ok.len
  have hn' : n < 8796093022208 := hn
  obtain ⟨i, ei⟩ : ∃ i : Nat, g = (i : Int) + 1 := ⟨g.toNat - 1, by omega⟩
  have hi : i < m.loans.length := by omega
  obtain ⟨gb, cur, hga, -⟩ := h.grant hi
  obtain ⟨W, eW⟩ : ∃ W, W = w.alloc (.cells #[.int .i64 g, .int .i64 t, .int .i64 b, .bool f] 70) := ⟨_, rfl⟩
  have hkW : Kept [] w W := by rw [eW]; exact (Kept.refl _ w).alloc _
  have hUW : At W w.heap.size 70 [.int .i64 g, .int .i64 t, .int .i64 b, .bool f] := by rw [eW]; exact at_alloc w _ [.int .i64 g, .int .i64 t, .int .i64 b, .bool f]
  have hbW : Below w.heap.size w W.drew.drew := by rw [eW]; exact ((Below.refl _ w).alloc (Nat.le_refl _) _).drew.drew
  have u0 : W.cell? ⟨w.heap.size, 0, none⟩ = some (.int .i64 g) := hUW.cell 0
  have u1 : W.cell? ⟨w.heap.size, 1, none⟩ = some (.int .i64 t) := hUW.cell 1
  have u2 : W.cell? ⟨w.heap.size, 2, none⟩ = some (.int .i64 b) := hUW.cell 2
  have u3 : W.cell? ⟨w.heap.size, 3, none⟩ = some (.bool f) := hUW.cell 3
  have hW := h.kept hkW (by simp)
  have c2 := hW.head.2.2
  rw [hga] at c2
  have hW2 := hW.kept (T := []) (Kept.refl _ W).drew.drew (by simp)
  have hck := ccheck_any (f := f) hW2 hi ei hga (by unfold In64; omega) ht hb (by unfold manyN; omega)
  have HP : Hid (∀ w3, Below W.drew.drew.heap.size W.drew.drew w3 → StepC w c (coF c N m) (m.report g t b f) n (.returned (.int .i64 (m.repErr g t b))) w3) := hid fun w3 hb3 => by
    rw [hR]
    have hb' := bthen hbW hb3
    exact ⟨rfl, Kept.of_below hb', _, ⟨N, rfl, h.kept (Kept.of_below (S := []) hb') (by simp)⟩, fun x hx => .inl hx⟩
  generalize StepC w c (coF c N m) (m.report g t b f) n = P at *
  generalize m.repErr g t b = E at *
  generalize hLL : m.loans.length = LL at *
  clear h hR hUW hW hW2 hga hLL hb ht
  unfold ptrV usageV at *
  have ei2 : g - 1 = (i : Int) := by omega
  have hg1 : ¬ g < 1 := by omega
  have hg2 : ¬ (LL : Int) < g := by omega
  have hg3 := hg.1
  have hg4 := hg.2
  clear hg ei
  go_enter Try.func34, Try.ntmps34
  go_upto_region 1 with fail
  rw [← eW]
  clear eW
  go_region
  go_upto_region 3 with fail
  go_region
  go_wp2_with (go_at_call 82; refine hck.mono ?_; rintro e w3 ⟨rfl, hb3⟩)
  exact HP.out w3 hb3
end Go.Proofs.Ytcnkcbipkchoiag
