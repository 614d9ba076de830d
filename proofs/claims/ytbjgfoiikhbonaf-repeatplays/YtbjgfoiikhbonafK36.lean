import Derived.Test.YtbjgfoiikhbonafK35
set_option linter.unusedVariables false
set_option linter.unusedSimpArgs false
namespace Go.Proofs.Ytbjgfoiikhbonaf
open Go.ChangeShapes Go.WideShapes Go.ChangeAt Go.RowKit
def openP (x : UnP) : Bool := !x.dn && decide (x.sent < x.text.size)
def SentPost (w : World) (b win bg : Nat) (ua : Option Addr) (c : Nat) (us : List UnP) (i a z : Nat) (tx : ByteArray) : Ending → World → Prop := fun e w' => e = .returned (.tuple #[pieceV ((bg + i) % 64) a (decide (z = tx.size)) (tx.extract a z), .int .i64 0]) ∧ Kept (sndF b ua us) w w' ∧ PSnd w' b win bg ua c (us.set i { us.getD i .zero with sent := z })
set_option maxRecDepth 100000 in
set_option maxHeartbeats 2000000 in
theorem snext_new {w : World} {b win bg : Nat} {ua : Option Addr} {c : Nat} {us : List UnP} {size i : Nat} (h : PSnd w b win bg ua c us) (hbg : bg < 64) (hl : us.length ≤ 4000) (hok : UsOk us) (h1 : 1 ≤ size) (h2 : size ≤ 1500) (_hw32 : win ≤ 32) (hna : ∀ j, j < us.length → (us.getD j .zero).al = []) (hiM : i < min win us.length) (hno : ∀ j, j < i → openP (us.getD j .zero) = false) (hyes : openP (us.getD i .zero) = true) :
    Calls Try.prog 16 #[.pointer (some ⟨b, 0, none⟩), .int .i64 (size : Int)] w (SentPost w b win bg ua c us i (us.getD i .zero).sent (min ((us.getD i .zero).sent + size) (us.getD i .zero).text.size) (us.getD i .zero).text) := by
  have hk0 : Kept [] w (w.alloc (.cells #[.int .i64 0, .int .i64 0, .bool false, .string { data := #[] }] 64)) := (Kept.refl _ w).alloc _
  have hA := at_alloc w 64 [.int .i64 0, .int .i64 0, .bool false, .string { data := #[] }]
  have hP := h.kept hk0 (by simp)
  have hsz : (w.alloc (.cells #[.int .i64 0, .int .i64 0, .bool false, .string { data := #[] }] 64)).heap.size = w.heap.size + 1 := World.size_alloc _ _
  have hlt := h.lt
  obtain ⟨c0, -, c2⟩ := hP.head
  have hil : i < us.length := by omega
  obtain ⟨hdn, hso⟩ : (us.getD i .zero).dn = false ∧ (us.getD i .zero).sent < (us.getD i .zero).text.size := by
    unfold openP at hyes
    rw [Bool.and_eq_true, decide_eq_true_eq] at hyes
    exact ⟨by simpa using hyes.1, hyes.2⟩
  have hszt := hok.size i hil
  obtain ⟨z, ez⟩ : ∃ z, z = min ((us.getD i .zero).sent + size) (us.getD i .zero).text.size := ⟨_, rfl⟩
  rw [← ez]
  generalize hQ : SentPost w b win bg ua c us i (us.getD i .zero).sent z (us.getD i .zero).text = Post
  obtain ⟨N, hN⟩ : ∃ N, N = us.length := ⟨_, rfl⟩
  obtain ⟨M, hM⟩ : ∃ M, M = min win us.length := ⟨_, rfl⟩
  rw [← hN] at c2 hl hil
  rw [← hM] at hiM
  have hMN : M ≤ N := by omega
  have mM : (if N < win then (N : Int) else (win : Int)) = (M : Int) := by rw [hM, ← hN]; split <;> omega
  have mM' : (if (N : Int) < (win : Int) then (N : Int) else (win : Int)) = (M : Int) := by rw [hM, ← hN]; split <;> omega
  have HP := hid hP
  have HNA := hid hna
  have HN := hid hN
  have HA := hid hA
  have HK0 := hid hk0
  have HLT := hid hlt
  have HSZ := hid hsz
  have HNO := hid hno
  have HYES := hid hyes
  have HQ := hid hQ
  have EZ := hid ez
  have HOK := hid hok
  clear hP hna hN hA hk0 hlt hok h hQ ez hM hno hyes
  have hd1 : ¬ ((size : Int) < 1) := by omega
  have hd2 : ¬ (1500 < (size : Int)) := by omega
  go_enter Try.func16, Try.ntmps16
  go_wp2_with fail
  go_loopw [23] (fun vi wr => ∃ k : Nat, k ≤ N ∧ vi = .int .i64 k ∧ Hid (wr = w.alloc (.cells #[.int .i64 0, .int .i64 0, .bool false, .string { data := #[] }] 64))) (fun vi _ => N - (intOf vi).toNat)
  case atStart => exact ⟨0, by omega, rfl, hid rfl⟩
  case round =>
    obtain ⟨k, hk, rfl, hw⟩ := hrel
    have HW := hw
    have hw := hw.out
    rw [← hw] at c0 c2 hsz
    rw [← hw] at HP HA HK0 HSZ
    clear hw
    by_cases hkN : k < N
    · obtain ⟨ug, hua, hugb, hun⟩ := HP.out.un (i := k) (by rw [← HN.out]; omega)
      subst hua
      have c3 := hun.c2
      obtain ⟨ad, cc, eav, -, -, -⟩ := hun.ag.shape
      rw [HNA.out k (by rw [← HN.out]; exact hkN)] at eav
      rw [eav] at c3
      clear hun eav
      go_wp2_with fail
      exact ⟨⟨k + 1, by omega, by go_num, HW⟩, by simp [intOf]; omega⟩
    · skip
      go_upto_region 10 with fail
      go_quiet (fail)
      go_wp2_with fail
      go_loopw [57] (fun vi w5 => ∃ k : Nat, k ≤ i ∧ vi = .int .i64 k ∧ ∃ n, w5 = wr.drewN n) (fun vi _ => N - (intOf vi).toNat)
      case atStart => exact ⟨0, by omega, rfl, _, rfl⟩
      case round =>
        obtain ⟨k, hk, rfl, n, rfl⟩ := hrel
        have hki : k < N := by omega
        have hPd : PSnd (wr.drewN n) b win bg ua c us := HP.out.kept ((Kept.refl [] _).drewN n) (by simp)
        obtain ⟨ug, hua, hugb, hun⟩ := hPd.un (i := k) (by rw [← HN.out]; omega)
        subst hua
        have hopn := open_any hun (by have := HOK.out.size k (by rw [← HN.out]; omega); omega) (by have := HOK.out.sent k (by rw [← HN.out]; omega); have := HOK.out.size k (by rw [← HN.out]; omega); omega)
        have d2 : (wr.drewN n).cell? ⟨b, 2, none⟩ = some (.slice (some ⟨ug, 0, none⟩) N c) := c2
        by_cases hlt : k < i
        · have hf := HNO.out k hlt
          unfold openP at hf
          rw [hf] at hopn
          have hkM : k < M := by omega
          clear hun hPd hf
          go_wp2_with (go_at_call 38; refine hopn.mono ?_; rintro e w6 ⟨rfl, n2, hw6⟩; rw [hw6, World.drewN_drewN])
          exact ⟨⟨k + 1, by omega, by go_num, _, rfl⟩, by simp [intOf]; omega⟩
        · obtain rfl : k = i := by omega
          have hf := HYES.out
          unfold openP at hf
          rw [hf] at hopn
          have u0 := hun.c0
          have u1 := hun.c1
          have uf := hun.fr (k * 4 + 1)
          have hkM : k < M := by omega
          have HUN := hid hun
          have HPD := hid hPd
          clear hf hun hPd
          have u0' : ∀ q, (wr.drewN q).cell? ⟨ug, k * 4, none⟩ = some (.string (us.getD k .zero).text) := fun q => u0
          have u1' : ∀ q, (wr.drewN q).cell? ⟨ug, k * 4 + 1, none⟩ = some (.int .i64 ((us.getD k .zero).sent : Int)) := fun q => u1
          have hkB : ∀ q, Kept [] (wr.drewN n) ((wr.drewN q).alloc (.cells #[.int .i64 0, .int .i64 0] 114)) := fun q => ⟨rfl, rfl, rfl, by simp, fun j hj _ => Below.heap_alloc (wr.drewN q) _ j hj⟩
          have aU0 : ∀ q, ((wr.drewN q).alloc (.cells #[.int .i64 0, .int .i64 0] 114)).cell? ⟨ug, k * 4, none⟩ = some (.string (us.getD k .zero).text) := fun q => keptCellQ (hkB q) u0 (by simp)
          have aU1 : ∀ q, ((wr.drewN q).alloc (.cells #[.int .i64 0, .int .i64 0] 114)).cell? ⟨ug, k * 4 + 1, none⟩ = some (.int .i64 ((us.getD k .zero).sent : Int)) := fun q => keptCellQ (hkB q) u1 (by simp)
          have uf' : ∀ q, (wr.drewN q).frozen? ⟨ug, k * 4 + 1, none⟩ = false := fun q => uf
          generalize hst : (us.getD k .zero).sent = st at *
          generalize htx : (us.getD k .zero).text = tx at *
          have HST := hid hst
          have HTX := hid htx
          clear hst htx u0 u1 uf hkB
          have mz : (if tx.size < st + size then (tx.size : Int) else (st : Int) + (size : Int)) = (z : Int) := by rw [EZ.out]; split <;> omega
          have mz' : (if (tx.size : Int) < (st : Int) + (size : Int) then (tx.size : Int) else (st : Int) + (size : Int)) = (z : Int) := by rw [EZ.out]; split <;> omega
          have hwr : IntKind.i64.wrap ((st : Int) + (size : Int)) = (st : Int) + (size : Int) := by rw [IntKind.wrap_i64]; omega
          go_upto_region 15 with (go_at_call 38; refine hopn.mono ?_; rintro e w6 ⟨rfl, n2, hw6⟩; rw [hw6, World.drewN_drewN])
          go_region
          have f1 : Kept [] wr ((wr.drewN (n + n2 + 1)).alloc (.cells #[.int .i64 (st : Int), .int .i64 (z : Int)] 114)) := ((Kept.refl _ wr).drewN _).alloc _
          have f2 : At ((wr.drewN (n + n2 + 1)).alloc (.cells #[.int .i64 (st : Int), .int .i64 (z : Int)] 114)) (w.heap.size + 1) 114 [.int .i64 (st : Int), .int .i64 (z : Int)] := by
            rw [← hsz]
            exact at_alloc (wr.drewN (n + n2 + 1)) _ _
          generalize ((wr.drewN (n + n2 + 1)).alloc (.cells #[.int .i64 (st : Int), .int .i64 (z : Int)] 114)) = W7 at *
          have hkl : k < us.length := by rw [← HN.out]; exact hki
          have hP7 : PSnd W7 b win bg (some ⟨ug, 0, none⟩) c us := HP.out.kept f1 (by simp)
          have hA7 := HA.out.kept f1 (by simp)
          obtain ⟨ug', eug, -, hu7⟩ := hP7.un hkl
          cases eug
          have v1 := hu7.c1
          have vf := hu7.fr (k * 4 + 1)
          rw [HST.out] at v1
          have x0 : W7.cell? ⟨w.heap.size + 1, 0, none⟩ = some (.int .i64 (st : Int)) := f2.cell 0
          have x1 : W7.cell? ⟨w.heap.size + 1, 1, none⟩ = some (.int .i64 (z : Int)) := f2.cell 1
          have hugl : ug < w.heap.size := HLT.out _ (sndF_u (y := ⟨ug, 0, none⟩) rfl)
          have hugN : ¬ (ug = w.heap.size + 1) := by omega
          have hugN' : ¬ (w.heap.size + 1 = ug) := by omega
          have hP8 : PSnd (W7.setCell ⟨ug, k * 4 + 1, none⟩ (.int .i64 (z : Int))) b win bg (some ⟨ug, 0, none⟩) c (us.set k { us.getD k .zero with sent := z }) := hP7.upd hkl (f := 1) (by omega) (PtrPost.store (Kept.refl [] W7) (by simp)) (by simp) rfl (hu7.ag.kept (kept_setCell _ _ _ _) (fun g' hg' => by simpa using hu7.sep g' hg')) (fun g' hg' => .inl hg')
          have hk8 : Kept (sndF b (some ⟨ug, 0, none⟩) us) w (W7.setCell ⟨ug, k * 4 + 1, none⟩ (.int .i64 (z : Int))) := Kept.setCell (p := ⟨ug, k * 4 + 1, none⟩) ((HK0.out.trans f1).wider (by simp)) (sndF_u (y := ⟨ug, 0, none⟩) rfl) _
          have hA8 := hA7.setOther ⟨ug, k * 4 + 1, none⟩ (.int .i64 (z : Int)) (by show w.heap.size ≠ ug; omega)
          have hpc := piece_any (i := k) (a := st) (z := z) hP8 (by rw [List.length_set]; exact hkl) (by omega) hbg (by rw [EZ.out]; omega) (by rw [getD_setS hkl]; show z ≤ (us.getD k .zero).text.size; rw [HTX.out, EZ.out]; omega) (by rw [getD_setS hkl]; show (us.getD k .zero).text.size ≤ 1500; rw [HTX.out]; omega)
          rw [getD_setS hkl] at hpc
          have hpc : Calls Try.prog 36 #[.pointer (some ⟨b, 0, none⟩), .int .i64 (k : Int), .agg #[.int .i64 (st : Int), .int .i64 (z : Int)]] (W7.setCell ⟨ug, k * 4 + 1, none⟩ (.int .i64 (z : Int))) fun e w' => e = .returned (pieceV ((bg + k) % 64) st (decide (z = tx.size)) (tx.extract st z)) ∧ Below (W7.setCell ⟨ug, k * 4 + 1, none⟩ (.int .i64 (z : Int))).heap.size (W7.setCell ⟨ug, k * 4 + 1, none⟩ (.int .i64 (z : Int))) w' := by
            have := hpc
            dsimp only at this
            rw [HTX.out] at this
            exact this
          have HFIN : Hid (∀ w2, Kept (sndF b (some ⟨ug, 0, none⟩) us) w w2 → PSnd w2 b win bg (some ⟨ug, 0, none⟩) c (us.set k { us.getD k .zero with sent := z }) → Post (.returned (.tuple #[pieceV ((bg + k) % 64) st (decide (z = tx.size)) (tx.extract st z), .int .i64 0])) w2) := hid fun w2 q1 q2 => by
            rw [← HQ.out]
            exact ⟨rfl, q1, q2⟩
          have HLT2 : Hid (∀ x ∈ sndF b (some ⟨ug, 0, none⟩) (us.set k { us.getD k .zero with sent := z }), x < w.heap.size) := hid fun x hx => by
            rcases sndF_mem hx with rfl | ⟨y, hy, rfl⟩ | ⟨j, hj, e⟩
            · exact HLT.out _ (sndF_b _ _ _)
            · exact HLT.out _ (sndF_u hy)
            · rw [List.length_set] at hj
              by_cases hjk : j = k
              · subst hjk
                rw [getD_setS hj] at e
                exact HLT.out _ (sndF_a hj e)
              · rw [getD_setN (fun e' => hjk e'.symm)] at e
                exact HLT.out _ (sndF_a hj e)
          have HP8 := hid hP8
          have HK8 := hid hk8
          have HA8 := hid hA8
          generalize hpv : pieceV ((bg + k) % 64) st (decide (z = tx.size)) (tx.extract st z) = PV at *
          have hpv' : ∃ v0 v1 v2 v3, PV = .agg #[.int .i64 v0, .int .i64 v1, .bool v2, .string v3] := ⟨_, _, _, _, hpv.symm⟩
          obtain ⟨v0, v1', v2, v3, epv⟩ := hpv'
          subst epv
          clear hpv f1 f2 hP7 hA7 hu7 hP8 hk8 hA8 u0' u1' uf' aU0 aU1 hopn
          go_wp2_with (go_at_call 36; refine hpc.mono ?_; rintro e w2 ⟨rfl, hb2⟩; have t5 := HA8.out.kept (S := []) (Kept.of_below hb2) (by simp); have y0 : w2.cell? ⟨w.heap.size, 0, none⟩ = some (.int .i64 0) := t5.cell 0; have y1 : w2.cell? ⟨w.heap.size, 1, none⟩ = some (.int .i64 0) := t5.cell 1; have y2 : w2.cell? ⟨w.heap.size, 2, none⟩ = some (.bool false) := t5.cell 2; have y3 : w2.cell? ⟨w.heap.size, 3, none⟩ = some (.string { data := #[] }) := t5.cell 3; have z0 := t5.free 0; have z1 := t5.free 1; have z2 := t5.free 2; have z3 := t5.free 3)
          obtain ⟨e1, e2⟩ := piece_end (v0 := .int .i64 v0) (v1 := .int .i64 v1') (v2 := .bool v2) (v3 := .string v3) HP8.out HK8.out HLT2.out hb2
          (try simp only [Exit.inBlock, Exit.then])
          refine bodyPost_ret (v := .tuple #[.agg #[.int .i64 v0, .int .i64 v1', .bool v2, .string v3], .int .i64 0]) ?_ rfl (HFIN.out _ e1 e2)
          rw [results_cell_tmp rfl]
          clear e1 e2 HFIN HLT2 HP8 HK8 hpc HP
          go_simp
end Go.Proofs.Ytbjgfoiikhbonaf
namespace Go.Proofs.Ytbjgfoiikhbonaf
open Go.ChangeShapes Go.WideShapes Go.ChangeAt Go.RowKit
set_option maxRecDepth 100000 in
set_option maxHeartbeats 2000000 in
theorem snext_none {w : World} {b win bg : Nat} {ua : Option Addr} {c : Nat} {us : List UnP} {size : Nat} (h : PSnd w b win bg ua c us) (hl : us.length ≤ 4000) (hok : UsOk us) (h1 : 1 ≤ size) (h2 : size ≤ 1500) (hna : ∀ j, j < us.length → (us.getD j .zero).al = []) (hno : ∀ j, j < min win us.length → openP (us.getD j .zero) = false) :
    Calls Try.prog 16 #[.pointer (some ⟨b, 0, none⟩), .int .i64 (size : Int)] w fun e w' => e = .returned (.tuple #[zeroPc, .int .i64 6]) ∧ Below w.heap.size w w' := by
  have hk0 : Kept [] w (w.alloc (.cells #[.int .i64 0, .int .i64 0, .bool false, .string { data := #[] }] 64)) := (Kept.refl _ w).alloc _
  have hA := at_alloc w 64 [.int .i64 0, .int .i64 0, .bool false, .string { data := #[] }]
  have hP := h.kept hk0 (by simp)
  have hBe : Below w.heap.size w (w.alloc (.cells #[.int .i64 0, .int .i64 0, .bool false, .string { data := #[] }] 64)) := (Below.refl _ w).alloc (Nat.le_refl _) _
  obtain ⟨c0, -, c2⟩ := hP.head
  obtain ⟨N, hN⟩ : ∃ N, N = us.length := ⟨_, rfl⟩
  obtain ⟨M, hM⟩ : ∃ M, M = min win us.length := ⟨_, rfl⟩
  rw [← hN] at c2 hl
  rw [← hM] at hno
  have hMN : M ≤ N := by omega
  have mM : (if N < win then (N : Int) else (win : Int)) = (M : Int) := by rw [hM, ← hN]; split <;> omega
  have mM' : (if (N : Int) < (win : Int) then (N : Int) else (win : Int)) = (M : Int) := by rw [hM, ← hN]; split <;> omega
  have HP := hid hP
  have HNA := hid hna
  have HN := hid hN
  have HA := hid hA
  have HBE := hid hBe
  have HNO := hid hno
  have HOK := hid hok
  clear hP hna hN hA hk0 hok h hM hno hBe
  have hd1 : ¬ ((size : Int) < 1) := by omega
  have hd2 : ¬ (1500 < (size : Int)) := by omega
  go_enter Try.func16, Try.ntmps16
  go_wp2_with fail
  go_loopw [23] (fun vi wr => ∃ k : Nat, k ≤ N ∧ vi = .int .i64 k ∧ Hid (wr = w.alloc (.cells #[.int .i64 0, .int .i64 0, .bool false, .string { data := #[] }] 64))) (fun vi _ => N - (intOf vi).toNat)
  case atStart => exact ⟨0, by omega, rfl, hid rfl⟩
  case round =>
    obtain ⟨k, hk, rfl, hw⟩ := hrel
    have HW := hw
    have hw := hw.out
    rw [← hw] at c0 c2
    rw [← hw] at HP HA HBE
    clear hw
    by_cases hkN : k < N
    · obtain ⟨ug, hua, hugb, hun⟩ := HP.out.un (i := k) (by rw [← HN.out]; omega)
      subst hua
      have c3 := hun.c2
      obtain ⟨ad, cc, eav, -, -, -⟩ := hun.ag.shape
      rw [HNA.out k (by rw [← HN.out]; exact hkN)] at eav
      rw [eav] at c3
      clear hun eav
      go_wp2_with fail
      exact ⟨⟨k + 1, by omega, by go_num, HW⟩, by simp [intOf]; omega⟩
    · go_upto_region 10 with fail
      go_quiet (fail)
      go_wp2_with fail
      go_loopw [57] (fun vi w5 => ∃ k : Nat, k ≤ M ∧ vi = .int .i64 k ∧ ∃ n, w5 = wr.drewN n) (fun vi _ => N - (intOf vi).toNat)
      case atStart => exact ⟨0, by omega, rfl, _, rfl⟩
      case round =>
        obtain ⟨k, hk, rfl, n, rfl⟩ := hrel
        by_cases hlt : k < M
        · have hki : k < N := by omega
          have hPd : PSnd (wr.drewN n) b win bg ua c us := HP.out.kept ((Kept.refl [] _).drewN n) (by simp)
          obtain ⟨ug, hua, hugb, hun⟩ := hPd.un (i := k) (by rw [← HN.out]; omega)
          subst hua
          have hopn := open_any hun (by have := HOK.out.size k (by rw [← HN.out]; omega); omega) (by have := HOK.out.sent k (by rw [← HN.out]; omega); have := HOK.out.size k (by rw [← HN.out]; omega); omega)
          have d2 : (wr.drewN n).cell? ⟨b, 2, none⟩ = some (.slice (some ⟨ug, 0, none⟩) N c) := c2
          have hf := HNO.out k hlt
          unfold openP at hf
          rw [hf] at hopn
          clear hun hPd hf
          go_wp2_with (go_at_call 38; refine hopn.mono ?_; rintro e w6 ⟨rfl, n2, hw6⟩; rw [hw6, World.drewN_drewN])
          exact ⟨⟨k + 1, by omega, by go_num, _, rfl⟩, by simp [intOf]; omega⟩
        · have y0 : (wr.drewN n).cell? ⟨w.heap.size, 0, none⟩ = some (.int .i64 0) := HA.out.cell 0
          have y1 : (wr.drewN n).cell? ⟨w.heap.size, 1, none⟩ = some (.int .i64 0) := HA.out.cell 1
          have y2 : (wr.drewN n).cell? ⟨w.heap.size, 2, none⟩ = some (.bool false) := HA.out.cell 2
          have y3 : (wr.drewN n).cell? ⟨w.heap.size, 3, none⟩ = some (.string { data := #[] }) := HA.out.cell 3
          have z0 : (wr.drewN n).frozen? ⟨w.heap.size, 0, none⟩ = false := HA.out.free 0
          have z1 : (wr.drewN n).frozen? ⟨w.heap.size, 1, none⟩ = false := HA.out.free 1
          have z2 : (wr.drewN n).frozen? ⟨w.heap.size, 2, none⟩ = false := HA.out.free 2
          have z3 : (wr.drewN n).frozen? ⟨w.heap.size, 3, none⟩ = false := HA.out.free 3
          have HB5 := hid (belowN HBE.out n)
          clear HBE HA
          go_wp2_with fail
          (try simp only [Exit.inBlock, Exit.then])
          refine bodyPost_ret (v := .tuple #[zeroPc, .int .i64 6]) ?_ rfl ⟨rfl, ?_⟩
          · rw [results_cell_tmp rfl]
            unfold zeroPc
            go_simp
          · exact (((HB5.out.setCell (Nat.le_refl _) _).setCell (Nat.le_refl _) _).setCell (Nat.le_refl _) _).setCell (Nat.le_refl _) _
def subErr (us : List UnP) (s : ByteArray) : Int := if s.size = 0 then 1 else if 1500 < s.size then 2 else if 64 ≤ waitN us then 7 else 0
set_option maxRecDepth 100000 in
set_option maxHeartbeats 1000000 in
theorem submit_bad {w : World} {b win bg : Nat} {ua : Option Addr} {c : Nat} {us : List UnP} {s : ByteArray} (h : PSnd w b win bg ua c us) (hl : us.length ≤ 1000000) (hs : s.size ≤ maxLen) (he : subErr us s ≠ 0) :
    Calls Try.prog 14 #[.pointer (some ⟨b, 0, none⟩), .string s] w fun e w' => e = .returned (.int .i64 (subErr us s)) ∧ w' = w := by
  have hwt := waiting_any h (by omega)
  have hs' : s.size ≤ 9223372036854775807 := by unfold maxLen at hs; omega
  clear h
  by_cases q0 : s.size = 0
  · have hv := hid (show subErr us s = 1 by unfold subErr; rw [if_pos q0])
    have hem : s.toList.isEmpty = true := by
      rw [ByteArray.toList_eq]
      have : s.data.toList.length = 0 := by rw [Array.length_toList]; exact q0
      rw [List.eq_nil_of_length_eq_zero this]
      rfl
    generalize subErr us s = V at *
    go_enter Try.func14, Try.ntmps14
    go_wp2_with fail
    go_ret
    exact ⟨by rw [hv.out]; rfl, rfl⟩
  · have hem : s.toList.isEmpty = false := emp_falseR q0
    by_cases q1 : 1500 < s.size
    · have hv := hid (show subErr us s = 2 by unfold subErr; rw [if_neg q0, if_pos q1])
      generalize subErr us s = V at *
      go_enter Try.func14, Try.ntmps14
      go_wp2_with fail
      go_ret
      exact ⟨by rw [hv.out]; rfl, rfl⟩
    · by_cases q2 : 64 ≤ waitN us
      · have hv := hid (show subErr us s = 7 by unfold subErr; rw [if_neg q0, if_neg q1, if_pos q2])
        generalize subErr us s = V at *
        generalize waitN us = q at *
        go_enter Try.func14, Try.ntmps14
        go_wp2_with (go_at_call 24; refine hwt.mono ?_; rintro e w1 ⟨rfl, rfl⟩)
        go_ret
        exact ⟨by rw [hv.out]; rfl, rfl⟩
      · exact absurd (show subErr us s = 0 by unfold subErr; rw [if_neg q0, if_neg q1, if_neg q2]) he
end Go.Proofs.Ytbjgfoiikhbonaf
