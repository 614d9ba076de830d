import Derived.Test.YtcnkcbipkchoiagU49
import Derived.Test.YtcnkcbipkchoiagU50
namespace Go.Proofs.Ytcnkcbipkchoiag.unitsMemory
open Go.ChangeShapes Go.WideShapes Go.ChangeAt Go.RowKit Go.Joins
open Go.ChangeMaps (open_string shut_string)
set_option linter.unusedVariables false
theorem slice_datum {H : Type} {enc : TypeId × Value → H} {P : Program} {W : World} {u s : TypeId} {a : Option Addr} {n c : Nat} {y : DataW H × List MemPlace} {fuel : Nat} (hu : P.underlying u = some (.slice s)) (hf : DataW.trod enc P W 0 (fun _ => true) true fuel u [.slice a n c] = some y) : (a = none → n = 0 ∧ c = 0) ∧ Places y.1 c := by
  rcases Deep.open_slice hu hf with ⟨hcs, rfl⟩ | ⟨x, len, cap, m, k, D, Pl, hcs, _, hl, hm, hmm, rfl, hx⟩
  · simp at hcs
    obtain ⟨rfl, rfl, rfl⟩ := hcs
    exact ⟨fun _ => ⟨rfl, rfl⟩, .inl ⟨rfl, rfl⟩⟩
  · simp at hcs
    obtain ⟨rfl, rfl, rfl⟩ := hcs
    simp at hmm
    subst hmm
    exact ⟨fun h => absurd h (by simp), .inr ⟨_, _, rfl, by simp; omega⟩⟩
theorem field_sized {H : Type} {P : Program} {ts : List TypeId} {ds : List (DataW H)} (h : (DataW.weightsEach P ts ds).all (· ≤ reachBytes) = true) {j i : Nat} {t u e : TypeId} {fs : Array Field} {parts : List (DataW H)} {d : DataW H} {c : Nat}
    (ht : ts[j]? = some t) (hd : ds[j]? = some (.agg parts)) (hu : P.underlying t = some (.struct fs)) (hf : (fs.toList.map (·.type))[i]? = some u) (hp : parts[i]? = some d) (hs : P.underlying u = some (.slice e)) (hpl : Places d c) : c * P.bytesOf e ≤ 140737488351232 := by
  rcases hpl with ⟨_, rfl⟩ | ⟨elems, spare, rfl, rfl⟩
  · omega
  · have h1 : (elems.length + spare.length) * P.bytesOf e ∈ DataW.weightsEach P (fs.toList.map (·.type)) parts := DataW.weights_mem_each hf hp _ (by simp [DataW.weights, hs])
    have h2 := List.all_eq_true.1 h _ (DataW.weights_mem_each ht hd _ (by simp only [DataW.weights, hu]; exact h1))
    have h3 : (elems.length + spare.length) * P.bytesOf e ≤ reachBytes := by simpa using h2
    exact h3
theorem Try.bytesGa : Try.prog.bytesOf 107 = 24 := by kernel_rfl
set_option maxRecDepth 100000 in
theorem lifted (os : Os) (started : os.Started) (H : Type) (enc : TypeId × Value → H) :
    ReturnsInHanded {} Try.checked os 7 .any (Rows.unitsMemorySpec.pre6 enc Try.prog Try.f7 Rows.unitsMemoryRow.domain false) (Rows.unitsMemorySpec.post enc Try.prog Try.f7 false true false false) := by
  refine returnsInHanded_of_change_sized (C := Try.checked) Try.own started (by kernel_rfl) Try.func7
    (ChangeSpec.witness6 (enc := enc) (C := Try.checked) false ⟨#[], #[.slice none 0 0, .agg #[.int .i64 0, .slice none 0 0]], []⟩ 8 (by kernel_rfl) (by kernel_rfl) (by kernel_rfl) (by kernel_rfl)) ?_
  intro W base args ds gs before hval0 hW hcnd hsz0 _
  have hsz : (DataW.weightsEach Try.prog (Try.f7.params.toList ++ Rows.unitsMemorySpec.plain.varTypes Try.prog) (ds ++ gs)).all (· ≤ reachBytes) = true := hsz0
  have hval : ∀ (j : Nat) t v, Try.f7.params[j]? = some t → args[j]? = some v → Value.okWide Try.prog W .any base t v := hval0
  have hW' := hW
  obtain ⟨p, q, hA0, hV, rfl, hfz, hnd⟩ := hW
  have hA : DataW.TrodAll enc Try.prog W 0 (fun _ => true) true Try.f7.params.toList args.toList ds p := hA0
  rw [Try.params7] at hA hval hsz
  obtain ⟨v0, vs0, d0, ds0, p0, q0, hargs, rfl, rfl, h0, r0⟩ := trodAll_cons hA
  obtain ⟨v1, vs1, d1, ds1, p1, q1, rfl, rfl, rfl, h1, r1⟩ := trodAll_cons r0
  obtain ⟨rfl, rfl, rfl⟩ := trodAll_nil r1
  obtain rfl : args = #[v0, v1] := by cases args; simp_all
  obtain ⟨rfl, rfl⟩ := trodVars_none hV
  have k0 := h0
  have k1 := h1
  have lt0 : ∀ x ∈ p0, x.block < W.heap.size := by obtain ⟨m, hm⟩ := k0; exact DataW.trod_lt m _ _ _ hm
  have lt1 : ∀ x ∈ p1, x.block < W.heap.size := by obtain ⟨m, hm⟩ := k1; exact DataW.trod_lt m _ _ _ hm
  obtain ⟨a0', l0, c0', rfl⟩ := okWide_slice Try.underlying32 (hval 0 32 v0 rfl rfl)
  obtain ⟨n0, g0⟩ := h0
  obtain ⟨a0, c0, uts, e0, hU, hl0, hm0, hz0⟩ := open_txsU (x := (d0, p0)) Try.underlying32 Try.underlying9 (by kernel_rfl) (show DataW.trod enc Try.prog W 0 (fun _ => true) true n0 32 [.slice a0' l0 c0'] = some (d0, p0) from g0)
  obtain ⟨x0, x1, y0, y1, n1, rfl, rfl, rfl, t0, t1⟩ := open_agg2 Try.underlying91 (by kernel_rfl) (by kernel_rfl) (hval 1 91 v1 rfl rfl) h1
  obtain ⟨B, eB, _, _⟩ := DataW.trod_int Try.underlying3 t0
  simp only [List.cons.injEq, and_true] at eB
  subst eB
  obtain ⟨a, c, ss, rfl, hS, hl1, hm1, _⟩ := open_gapsU Try.underlying89 Try.underlying107 (by kernel_rfl) rfl rfl rfl (by kernel_rfl) (by kernel_rfl) (by kernel_rfl) Try.underlying3 Try.underlying3 Try.underlying3 t1
  clear hA0 hval0
  obtain ⟨hnil, hpl⟩ := slice_datum Try.underlying89 t1
  have hs0 : ss.length ≤ 5864062014634 := by
    have := field_sized hsz (j := 1) (i := 1) (t := 91) (u := 89) (e := 107) rfl rfl Try.underlying91 rfl rfl Try.underlying89 hpl
    rw [Try.bytesGa] at this
    omega
  have hgs := umem_any uts B ss a0 a uts.length c0 ss.length c W hU rfl (Nat.le_trans hl0 hm0) hz0 hS rfl hnil hs0
  rw [← e0] at hgs
  refine hgs.mono fun e W' ⟨he, bel⟩ => ?_
  subst he
  exact ⟨_, rfl, _, _, _, [], _, [], hW', trodAll_mk1 (shut_bool Try.underlying4 _), (trodAll_cons_mk (Below.trod Try.laidOut (by kernel_rfl) (of_decide_eq_true (by kernel_rfl)) k0 bel lt0) (trodAll_cons_mk (Below.trod Try.laidOut (by kernel_rfl) (of_decide_eq_true (by kernel_rfl)) k1 bel lt1) trodAll_mk0)), rfl, bel.frame _, fun h => by cases h⟩
theorem over : Rows.unitsMemoryRow.holds Try.pinned (OpenSpec.ofChange Rows.unitsMemorySpec) :=
  OpenClaim.holds_of_wide 7 Try.f7 rfl rfl rfl rfl rfl rfl rfl ⟨rfl, rfl, rfl, rfl, rfl⟩ rfl rfl rfl rfl rfl (by kernel_rfl) Try.func7 (by kernel_rfl)
    (of_decide_eq_true (by kernel_rfl)) (by unfold Func.isWrapper; first | (rw [if_pos (by decide +kernel)]; kernel_rfl) | (rw [if_neg (by decide +kernel)]; exact ⟨rfl, rfl⟩))
    (fun os started H enc _ => lifted os started H enc)
/-- THE STATEMENT -/
theorem proved : Rows.UnitsMemorySaid := over
#print axioms proved
end Go.Proofs.Ytcnkcbipkchoiag.unitsMemory
