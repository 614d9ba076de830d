import Derived.Test.YtjpohfghibhkiadGmL
import Derived.Test.YtjpohfghibhkiadGridK
namespace Go.Proofs.Ytjpohfghibhkiad.gridMemory
open Go.ChangeShapes Go.WideShapes Go.ChangeAt Go.RowKit Go.Joins
open Go.ChangeMaps (open_string shut_string)
set_option linter.unusedVariables false

theorem slice_datum {H : Type} {enc : TypeId × Value → H} {P : Program} {W : World} {u s : TypeId} {a : Option Addr} {n c : Nat} {y : DataW H × List MemPlace} {fuel : Nat} (hu : P.underlying u = some (.slice s)) (hf : DataW.trod enc P W 0 (fun _ => true) true fuel u [.slice a n c] = some y) : (a = none → n = 0 ∧ c = 0) ∧ Places y.1 c := by
  rcases Deep.open_slice hu hf with ⟨hcs, rfl⟩ | ⟨x, len, cap, m, k, D, Pl, hcs, _, hl, hm, hmm, rfl, hx⟩
  · simp at hcs
    obtain ⟨rfl, rfl, rfl⟩ := hcs
    exact ⟨fun _ => ⟨rfl, rfl⟩, .inl ⟨rfl, rfl⟩⟩
  · simp at hcs
    obtain ⟨rfl, rfl, rfl⟩ := hcs
    simp at hmm
    subst hmm
    exact ⟨fun h => absurd h (by simp), .inr ⟨_, _, rfl, by simp; omega⟩⟩
theorem field_sized {H : Type} {P : Program} {ts : List TypeId} {ds : List (DataW H)} (h : (DataW.weightsEach P ts ds).all (· ≤ reachBytes) = true) {j i : Nat} {t u e : TypeId} {fs : Array Field} {parts : List (DataW H)} {d : DataW H} {c : Nat}
    (ht : ts[j]? = some t) (hd : ds[j]? = some (.agg parts)) (hu : P.underlying t = some (.struct fs)) (hf : (fs.toList.map (·.type))[i]? = some u) (hp : parts[i]? = some d) (hs : P.underlying u = some (.slice e)) (hpl : Places d c) : c * P.bytesOf e ≤ 140737488351232 := by
  rcases hpl with ⟨_, rfl⟩ | ⟨elems, spare, rfl, rfl⟩
  · omega
  · have h1 : (elems.length + spare.length) * P.bytesOf e ∈ DataW.weightsEach P (fs.toList.map (·.type)) parts := DataW.weights_mem_each hf hp _ (by simp [DataW.weights, hs])
    have h2 := List.all_eq_true.1 h _ (DataW.weights_mem_each ht hd _ (by simp only [DataW.weights, hu]; exact h1))
    have h3 : (elems.length + spare.length) * P.bytesOf e ≤ reachBytes := by simpa using h2
    exact h3
theorem Try.bytesSh : Try.prog.bytesOf 52 = 40 := by kernel_rfl

/-! ### THE ROW's STEP -/
set_option maxRecDepth 100000 in
theorem lifted (os : Os) (started : os.Started) (H : Type) (enc : TypeId × Value → H) :
    ReturnsInHanded {} Try.checked os 5 .any (Rows.gridMemorySpec.pre6 enc Try.prog Try.f5 Rows.gridMemoryRow.domain false) (Rows.gridMemorySpec.post enc Try.prog Try.f5 false true false false) := by
  refine returnsInHanded_of_change_sized (C := Try.checked) Try.own started (by kernel_rfl) Try.func5
    (ChangeSpec.witness6 (enc := enc) (C := Try.checked) false ⟨#[], #[.agg #[.int .i64 0, .slice none 0 0], .slice none 0 0], []⟩ 8 (by kernel_rfl) (by kernel_rfl) (by kernel_rfl) (by kernel_rfl)) ?_
  intro W base args ds gs before hval0 hW hcnd hsz0 _
  have hsz : (DataW.weightsEach Try.prog (Try.f5.params.toList ++ Rows.gridMemorySpec.plain.varTypes Try.prog) (ds ++ gs)).all (· ≤ reachBytes) = true := hsz0
  have hval : ∀ (j : Nat) t v, Try.f5.params[j]? = some t → args[j]? = some v → Value.okWide Try.prog W .any base t v := hval0
  have hW' := hW
  obtain ⟨p, q, hA0, hV, rfl, hfz, hnd⟩ := hW
  have hA : DataW.TrodAll enc Try.prog W 0 (fun _ => true) true Try.f5.params.toList args.toList ds p := hA0
  rw [Try.params5] at hA hval hsz
  obtain ⟨v0, vs0, d0, ds0, p0, q0, hargs, rfl, rfl, h0, r0⟩ := trodAll_cons hA
  obtain ⟨v1, vs1, d1, ds1, p1, q1, rfl, rfl, rfl, h1, r1⟩ := trodAll_cons r0
  obtain ⟨rfl, rfl, rfl⟩ := trodAll_nil r1
  obtain rfl : args = #[v0, v1] := by cases args; simp_all
  obtain ⟨rfl, rfl⟩ := trodVars_none hV
  have k0 := h0
  have lt0 : ∀ x ∈ p0, x.block < W.heap.size := by obtain ⟨m, hm⟩ := k0; exact DataW.trod_lt m _ _ _ hm
  obtain ⟨x0, x1, y0, y1, n0, rfl, rfl, rfl, t0, t1⟩ := open_agg2 Try.underlying24 (by kernel_rfl) (by kernel_rfl) (hval 0 24 v0 rfl rfl) h0
  obtain ⟨B, eB, _, _⟩ := DataW.trod_int Try.underlying3 t0
  simp only [List.cons.injEq, and_true] at eB
  subst eB
  obtain ⟨a, c, ss, rfl, hS, hl0, hm0, hF⟩ := open_sharesF Try.underlying22 Try.underlying52 (by kernel_rfl) rfl rfl rfl rfl rfl (by kernel_rfl) (by kernel_rfl) (by kernel_rfl) (by kernel_rfl) (by kernel_rfl) Try.underlying3 Try.underlying3 Try.underlying3 Try.underlying3 Try.underlying3 t1
  have k1 := h1
  have lt1 : ∀ x ∈ p1, x.block < W.heap.size := by obtain ⟨m, hm⟩ := k1; exact DataW.trod_lt m _ _ _ hm
  obtain ⟨a1, l1, c1, rfl⟩ := okWide_slice Try.underlying34 (hval 1 34 v1 rfl rfl)
  obtain ⟨n1, g1⟩ := h1
  obtain ⟨ax, cx, xs, e1, hX, hl1, hm1⟩ := open_pointsF Try.underlying34 Try.underlying47 (by kernel_rfl) rfl rfl (by kernel_rfl) (by kernel_rfl) Try.underlying3 Try.underlying3 (show DataW.trod enc Try.prog W 0 (fun _ => true) true n1 34 [.slice a1 l1 c1] = _ from g1)
  have hM : maxLen ≤ 9223372036854775807 := by unfold maxLen; omega
  clear hA0 hval0
  obtain ⟨hnil, hpl⟩ := slice_datum Try.underlying22 t1
  have hs0 : ss.length ≤ 3518437208880 := by
    have := field_sized hsz (j := 0) (i := 1) (t := 24) (u := 22) (e := 52) rfl rfl Try.underlying24 rfl rfl Try.underlying22 hpl
    rw [Try.bytesSh] at this
    omega
  have hgs := gmem_any B ss a ss.length c xs ax xs.length cx W hS hnil rfl hs0 hF hX rfl (by omega)
  rw [← e1] at hgs
  refine hgs.mono fun e W' ⟨he, bel⟩ => ?_
  subst he
  exact ⟨_, rfl, _, _, _, [], _, [], hW', trodAll_mk1 (shut_bool Try.underlying4 _), (trodAll_cons_mk (Below.trod Try.laidOut (by kernel_rfl) (of_decide_eq_true (by kernel_rfl)) k0 bel lt0) (trodAll_cons_mk (Below.trod Try.laidOut (by kernel_rfl) (of_decide_eq_true (by kernel_rfl)) k1 bel lt1) trodAll_mk0)), rfl, bel.frame _, fun h => by cases h⟩

theorem over : Rows.gridMemoryRow.holds Try.pinned (OpenSpec.ofChange Rows.gridMemorySpec) :=
  OpenClaim.holds_of_wide 5 Try.f5 rfl rfl rfl rfl rfl rfl rfl ⟨rfl, rfl, rfl, rfl, rfl⟩ rfl rfl rfl rfl rfl (by kernel_rfl) Try.func5 (by kernel_rfl)
    (of_decide_eq_true (by kernel_rfl)) (by unfold Func.isWrapper; first | (rw [if_pos (by decide +kernel)]; kernel_rfl) | (rw [if_neg (by decide +kernel)]; exact ⟨rfl, rfl⟩))
    (fun os started H enc _ => lifted os started H enc)

/-- THE STATEMENT -/
theorem proved : Rows.GridMemorySaid := over
#print axioms proved
end Go.Proofs.Ytjpohfghibhkiad.gridMemory
