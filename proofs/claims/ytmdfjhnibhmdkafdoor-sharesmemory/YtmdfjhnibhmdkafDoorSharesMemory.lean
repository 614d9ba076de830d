import Derived.Test.YtmdfjhnibhmdkafDoorSt27
import Derived.Test.YtmdfjhnibhmdkafDoorSt35
import Derived.Test.YtmdfjhnibhmdkafDoorSt36
import Derived.Test.YtmdfjhnibhmdkafDoorSt28
import Derived.Test.YtmdfjhnibhmdkafDoorSt01
import Derived.Test.YtmdfjhnibhmdkafDoorTie
import Derived.Test.YtmdfjhnibhmdkafDoorCards
import Derived.LaidMore
import Derived.SevenTiedAt
import Derived.Deep.DeepHandedRow
import Derived.Lay
namespace Go.Proofs.YtmdfjhnibhmdkafDoor.sharesMemory
open Go.ChangeShapes Go.WideShapes Go.ChangeAt Go.RowKit
set_option linter.unusedVariables false
theorem cells3 : Tryd.prog.cellsOf 3 = 1 := by kernel_rfl
theorem bytesIt : Tryd.prog.bytesOf 31 = 24 := by kernel_rfl
theorem bytesCh : Tryd.prog.bytesOf 38 = 32 := by kernel_rfl
theorem bytesUs : Tryd.prog.bytesOf 47 = 24 := by kernel_rfl
theorem bytesIn : Tryd.prog.bytesOf 3 = 8 := by kernel_rfl
theorem slice_shape {H : Type} {enc : TypeId × Value → H} {P : Program} {W : World} {u s : TypeId} {a : Option Addr} {n c : Nat} {x : DataW H × List MemPlace} {fuel : Nat} (hu : P.underlying u = some (.slice s)) (hf : DataW.trod enc P W 0 (fun _ => true) true fuel u [.slice a n c] = some x) : (a = none → n = 0 ∧ c = 0) ∧ Places x.1 c := by
  rcases Deep.open_slice hu hf with ⟨hcs, hx⟩ | ⟨y, len, cap, m, k, D, Pl, hcs, _, hl, hm, hmm, hd, -⟩
  · simp only [List.cons.injEq, Value.slice.injEq, and_true] at hcs
    obtain ⟨rfl, rfl, rfl⟩ := hcs
    exact ⟨fun _ => ⟨rfl, rfl⟩, .inl ⟨by rw [hx], rfl⟩⟩
  · simp only [List.cons.injEq, Value.slice.injEq, and_true] at hcs
    obtain ⟨rfl, rfl, rfl⟩ := hcs
    simp at hmm
    subst hmm
    exact ⟨(fun h => by cases h), .inr ⟨_, _, by rw [hd], by simp; omega⟩⟩
theorem laid_met (os : Os) : laidMet Tryd.prog Rows.sharesMemoryRow.laid ((World.laidAll Tryd.prog os Rows.sharesMemoryRow.laid).forCall (fun _ _ => 0) ⟨#[], #[.slice none 0 0, .slice none 0 0, .int .i64 0, .slice none 0 0, .int .i64 0, .slice none 0 0], []⟩).memory :=
  laidMet_laidAll _ (by kernel_rfl) (by kernel_rfl)
theorem reads (os : Os) {H : Type} (enc : TypeId × Value → H) : ∃ places, DataW.whole enc Tryd.prog ((World.laidAll Tryd.prog os Rows.sharesMemoryRow.laid).forCall (fun _ _ => 0) ⟨#[], #[.slice none 0 0, .slice none 0 0, .int .i64 0, .slice none 0 0, .int .i64 0, .slice none 0 0], []⟩).memory Tryd.f4.params.toList Rows.sharesMemorySpec.vars false #[Value.slice none 0 0, .slice none 0 0, .int .i64 0, .slice none 0 0, .int .i64 0, .slice none 0 0].toList 8 = some ([.nil, .nil, .lit (.int .i64 0), .nil, .lit (.int .i64 0), .nil], [], places) :=
  ⟨[], by kernel_rfl⟩
set_option maxRecDepth 100000 in
theorem lifted (os : Os) (started : os.Started) (H : Type) (enc : TypeId × Value → H) (F : Stop.Interp) :
    ReturnsInHanded {} Tryd.checked os 4 .any ((OpenSpec.ofChange Rows.sharesMemorySpec).preRow enc Tryd.prog Tryd.f4 Rows.sharesMemoryRow.domain false Rows.sharesMemoryRow.laid) (((OpenSpec.ofChange Rows.sharesMemorySpec).at F).post enc Tryd.prog Tryd.f4 false true false false) := by
  obtain ⟨places, hx⟩ := reads os enc
  refine returnsInHanded_of_row (C := Tryd.checked) (s := OpenSpec.ofChange Rows.sharesMemorySpec) Tryd.own started (by kernel_rfl) Tryd.func4
    (witness_row_at (enc := enc) (C := Tryd.checked) false (World.laidAll Tryd.prog os Rows.sharesMemoryRow.laid) #[.slice none 0 0, .slice none 0 0, .int .i64 0, .slice none 0 0, .int .i64 0, .slice none 0 0] (World.laidAll_os _ _ _) (by kernel_rfl) (by kernel_rfl) (by kernel_rfl)
      (OpenSpec.preRow_of_cond 8 hx (by kernel_rfl) (fun k hk => by cases hk) (by kernel_rfl) (laid_met os))) ?_
  intro W base args ds gs before hval0 hW _ _ hsz0 hL _ _
  have hsz : (DataW.weightsEach Tryd.prog (Tryd.f4.params.toList ++ (OpenSpec.ofChange Rows.sharesMemorySpec).bare.plain.varTypes Tryd.prog) (ds ++ gs)).all (· ≤ reachBytes) = true := hsz0
  have hval : ∀ (j : Nat) t v, Tryd.f4.params[j]? = some t → args[j]? = some v → Value.okWide Tryd.prog W .any base t v := hval0
  have hW' := hW
  obtain ⟨p, q, hA0, hV, rfl, hfz, hnd⟩ := hW
  have hA : DataW.TrodAll enc Tryd.prog W 0 (fun _ => true) true Tryd.f4.params.toList args.toList ds p := hA0
  rw [Tryd.params4] at hA hval hsz
  obtain ⟨v0, vs0, d0, ds0, p0, q0, hargs, rfl, rfl, h0, r0⟩ := trodAll_cons hA
  obtain ⟨v1, vs1, d1, ds1, p1, q1, rfl, rfl, rfl, h1, r1⟩ := trodAll_cons r0
  obtain ⟨v2, vs2, d2, ds2, p2, q2, rfl, rfl, rfl, h2, r2⟩ := trodAll_cons r1
  obtain ⟨v3, vs3, d3, ds3, p3, q3, rfl, rfl, rfl, h3, r3⟩ := trodAll_cons r2
  obtain ⟨v4, vs4, d4, ds4, p4, q4, rfl, rfl, rfl, h4, r4⟩ := trodAll_cons r3
  obtain ⟨v5, vs5, d5, ds5, p5, q5, rfl, rfl, rfl, h5, r5⟩ := trodAll_cons r4
  obtain ⟨rfl, rfl, rfl⟩ := trodAll_nil r5
  obtain rfl : args = #[v0, v1, v2, v3, v4, v5] := by cases args; simp_all
  obtain ⟨rfl, rfl⟩ := trodVars_none hV
  have k0 := h0
  have k1 := h1
  have k3 := h3
  have k5 := h5
  have lt0 : ∀ x ∈ p0, x.block < W.heap.size := by obtain ⟨m, hm⟩ := k0; exact DataW.trod_lt m _ _ _ hm
  have lt1 : ∀ x ∈ p1, x.block < W.heap.size := by obtain ⟨m, hm⟩ := k1; exact DataW.trod_lt m _ _ _ hm
  have lt3 : ∀ x ∈ p3, x.block < W.heap.size := by obtain ⟨m, hm⟩ := k3; exact DataW.trod_lt m _ _ _ hm
  have lt5 : ∀ x ∈ p5, x.block < W.heap.size := by obtain ⟨m, hm⟩ := k5; exact DataW.trod_lt m _ _ _ hm
  obtain ⟨a0', l0, c0', rfl⟩ := okWide_slice Tryd.underlying22 (hval 0 22 v0 rfl rfl)
  obtain ⟨n0, g0⟩ := h0
  have g0' : DataW.trod enc Tryd.prog W 0 (fun _ => true) true n0 22 [.slice a0' l0 c0'] = some (d0, p0) := g0
  obtain ⟨s0, w0⟩ := slice_shape Tryd.underlying22 g0'
  obtain ⟨a0, c0, l, e0, hC, hl0, hm0⟩ := open_chansF Tryd.underlying22 Tryd.underlying38 (by kernel_rfl) rfl rfl rfl rfl (by kernel_rfl) (by kernel_rfl) (by kernel_rfl) (by kernel_rfl) Tryd.underlying3 Tryd.underlying3 Tryd.underlying3 Tryd.underlying3 g0'
  simp only [Value.slice.injEq] at e0
  obtain ⟨rfl, rfl, rfl⟩ := e0
  have b0 := places_sized hsz (j := 0) (t := 22) (e := 38) rfl rfl Tryd.underlying22 w0
  rw [bytesCh] at b0
  obtain ⟨a1', l1, c1', rfl⟩ := okWide_slice Tryd.underlying23 (hval 1 23 v1 rfl rfl)
  obtain ⟨n1, g1⟩ := h1
  have g1' : DataW.trod enc Tryd.prog W 0 (fun _ => true) true n1 23 [.slice a1' l1 c1'] = some (d1, p1) := g1
  obtain ⟨s1, w1⟩ := slice_shape Tryd.underlying23 g1'
  obtain ⟨a1, c1, zs, e1, hZ, _, hlc, hcm, _⟩ := open_nums Tryd.underlying23 Tryd.underlying3 cells3 (hval 1 23 _ rfl rfl) k1
  obtain ⟨rfl, rfl, rfl⟩ : a1' = a1 ∧ l1 = zs.length ∧ c1' = c1 := by injection e1 with h1 h2 h3; exact ⟨h1, h2, h3⟩
  have b1 := places_sized hsz (j := 1) (t := 23) (e := 3) rfl rfl Tryd.underlying23 w1
  rw [bytesIn] at b1
  obtain ⟨a2, rfl, rfl, rfl, w2⟩ := open_int Tryd.underlying3 (hval 2 3 v2 rfl rfl) h2
  obtain ⟨a3', l3, c3', rfl⟩ := okWide_slice Tryd.underlying42 (hval 3 42 v3 rfl rfl)
  obtain ⟨n3, g3⟩ := h3
  have g3' : DataW.trod enc Tryd.prog W 0 (fun _ => true) true n3 42 [.slice a3' l3 c3'] = some (d3, p3) := g3
  obtain ⟨s3, w3⟩ := slice_shape Tryd.underlying42 g3'
  obtain ⟨a3, c3, us, e3, hU, hl3, hm3, _⟩ := open_usersF Tryd.underlying42 Tryd.underlying47 (by kernel_rfl) rfl rfl rfl (by kernel_rfl) (by kernel_rfl) (by kernel_rfl) Tryd.underlying3 Tryd.underlying3 Tryd.underlying3 g3'
  simp only [Value.slice.injEq] at e3
  obtain ⟨rfl, rfl, rfl⟩ := e3
  have b3 := places_sized hsz (j := 3) (t := 42) (e := 47) rfl rfl Tryd.underlying42 w3
  rw [bytesUs] at b3
  obtain ⟨a4, rfl, rfl, rfl, w4⟩ := open_int Tryd.underlying3 (hval 4 3 v4 rfl rfl) h4
  obtain ⟨a5', l5, c5', rfl⟩ := okWide_slice Tryd.underlying24 (hval 5 24 v5 rfl rfl)
  obtain ⟨n5, g5⟩ := h5
  have g5' : DataW.trod enc Tryd.prog W 0 (fun _ => true) true n5 24 [.slice a5' l5 c5'] = some (d5, p5) := g5
  obtain ⟨s5, w5⟩ := slice_shape Tryd.underlying24 g5'
  obtain ⟨a5, c5, its, e5, hI, hl5, hm5, _⟩ := open_itemsF Tryd.underlying24 Tryd.underlying31 (by kernel_rfl) rfl rfl (by kernel_rfl) (by kernel_rfl) Tryd.underlying3 Tryd.underlying9 g5'
  simp only [Value.slice.injEq] at e5
  obtain ⟨rfl, rfl, rfl⟩ := e5
  have b5 := places_sized hsz (j := 5) (t := 24) (e := 31) rfl rfl Tryd.underlying24 w5
  rw [bytesIt] at b5
  clear hA0 hval0
  refine (shmem_any l zs a2 us a4 its _ _ _ _ l.length _ zs.length _ us.length _ its.length _ W hC rfl s0 (by omega) hZ rfl s1 (by omega) hU rfl s3 (by omega) hI rfl s5 (by omega)).mono fun e W' ⟨he, bel⟩ => ?_
  subst he
  exact ⟨_, rfl, _, _, _, [], _, [], hW', trodAll_mk1 (shut_bool Tryd.underlying4 _), (trodAll_cons_mk (Below.trod Tryd.laidOut (by kernel_rfl) (of_decide_eq_true (by kernel_rfl)) k0 bel lt0) (trodAll_cons_mk (Below.trod Tryd.laidOut (by kernel_rfl) (of_decide_eq_true (by kernel_rfl)) k1 bel lt1) (trodAll_cons_mk (shut_int Tryd.underlying3 w2) (trodAll_cons_mk (Below.trod Tryd.laidOut (by kernel_rfl) (of_decide_eq_true (by kernel_rfl)) k3 bel lt3) (trodAll_cons_mk (shut_int Tryd.underlying3 w4) (trodAll_cons_mk (Below.trod Tryd.laidOut (by kernel_rfl) (of_decide_eq_true (by kernel_rfl)) k5 bel lt5) trodAll_mk0)))))), rfl, bel.frame _, fun h => by cases h⟩
theorem over : Rows.SharesMemorySaid :=
  OpenClaim.holds_of_cond 4 Tryd.f4 rfl rfl rfl rfl rfl rfl rfl ⟨rfl, rfl, rfl, rfl, rfl⟩ rfl rfl rfl rfl rfl (by kernel_rfl) Tryd.func4 (by kernel_rfl)
    (of_decide_eq_true (by kernel_rfl)) (by unfold Func.isWrapper; first | (rw [if_pos (by decide +kernel)]; kernel_rfl) | (rw [if_neg (by decide +kernel)]; exact ⟨rfl, rfl⟩))
    (fun os started H enc _ F => by rw [OpenClaim.pre_eq_preRow]; exact lifted os started H enc F)
/-- THE STATEMENT -/
theorem proved : Rows.SharesMemoryCardSaid :=
  Claim7.holds_tied_plain_at .later [] [.data, .pinned] true _ false
    over (fun _ h => by cases h) (by kernel_rfl) (fun _ h => by cases h) sharesMemory_row_tie rfl ⟨rfl, rfl⟩ (by kernel_rfl) rfl
    (fun f fn hf hfn => by
      obtain rfl : f = 4 := Option.some.inj ((show Tryd.prog.funcNamed "roamwave/roamkeep.SharesMemory" = some 4 by kernel_rfl).symm.trans hf) |>.symm
      obtain rfl : fn = Tryd.f4 := (Option.some.inj (Tryd.func4.symm.trans hfn)).symm
      exact ⟨by kernel_rfl, fun j t ht => by
        rw [Tryd.params4] at ht
        have hm : t ∈ [22, 23, 3, 42, 3, 24] := by simpa using Array.mem_of_getElem? ht
        have hall : ([22, 23, 3, 42, 3, 24].all fun u => !Tryd.prog.wantsStandIn u) = true := by kernel_rfl
        exact (show Tryd.prog.wantsStandIn t = false by simpa using List.all_eq_true.1 hall t hm)⟩)
    (by kernel_rfl)
#print axioms proved
end Go.Proofs.YtmdfjhnibhmdkafDoor.sharesMemory
