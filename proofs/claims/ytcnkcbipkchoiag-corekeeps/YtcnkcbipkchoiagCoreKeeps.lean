import Derived.Test.YtcnkcbipkchoiagKeD
import Derived.Test.YtcnkcbipkchoiagKeO
namespace Go.Proofs.Ytcnkcbipkchoiag.coreKeeps
open Go.ChangeShapes Go.WideShapes Go.ChangeAt Go.RowKit Go.Joins
set_option linter.unusedVariables false

theorem bytesUs : Try.prog.bytesOf 70 = 32 := by kernel_rfl
theorem walk (u : Int) (qs : List Int) (us : List UsgM) (aq al : Option Addr) (cq cl : Nat) (w : World) (hQ : Rd .i64 w aq qs) (hU : Usg w al us) (hok : ∀ i, i < us.length → (us.getD i .zero).ok) (hnl : us.length ≤ 4398046510976) :
    Calls Try.prog 6 #[.int .i64 u, .slice aq qs.length cq, .slice al us.length cl] w fun e w' => e = .returned (.bool true) ∧ Below w.heap.size w w' := by
  by_cases h : u < 1 ∨ 1000000 < u
  · exact keeps_bad u aq al _ cq _ cl w h
  · obtain ⟨n, rfl⟩ : ∃ n : Nat, u = (n : Int) := ⟨u.toNat, by omega⟩
    exact keeps_good n qs us aq al _ cq _ cl w (by omega) (by omega) hQ rfl hU rfl hok hnl

/-! ### THE ROW's STEP -/
set_option maxRecDepth 100000 in
theorem lifted (os : Os) (started : os.Started) (H : Type) (enc : TypeId × Value → H) :
    ReturnsInHanded {} Try.checked os 6 .any (Rows.coreKeepsSpec.pre6 enc Try.prog Try.f6 Rows.coreKeepsRow.domain false) (Rows.coreKeepsSpec.post enc Try.prog Try.f6 false true false false) := by
  refine returnsInHanded_of_change_sized (C := Try.checked) Try.own started (by kernel_rfl) Try.func6
    (ChangeSpec.witness6 (enc := enc) (C := Try.checked) false ⟨#[], #[.int .i64 0, .slice none 0 0, .slice none 0 0], []⟩ 8 (by kernel_rfl) (by kernel_rfl) (by kernel_rfl) (by kernel_rfl)) ?_
  intro W base args ds gs before hval0 hW hcnd hsz0 _
  have hval : ∀ (j : Nat) t v, Try.f6.params[j]? = some t → args[j]? = some v → Value.okWide Try.prog W .any base t v := hval0
  have hsz : (DataW.weightsEach Try.prog (Try.f6.params.toList ++ Rows.coreKeepsSpec.plain.varTypes Try.prog) (ds ++ gs)).all (· ≤ reachBytes) = true := hsz0
  have hW' := hW
  obtain ⟨p, q, hA0, hV, rfl, hfz, hnd⟩ := hW
  have hA : DataW.TrodAll enc Try.prog W 0 (fun _ => true) true Try.f6.params.toList args.toList ds p := hA0
  rw [Try.params6] at hA hval hsz
  obtain ⟨v0, vs0, d0, ds0, p0, q0, hargs, rfl, rfl, h0, r0⟩ := trodAll_cons hA
  obtain ⟨v1, vs1, d1, ds1, p1, q1, hvs, rfl, rfl, h1, r1⟩ := trodAll_cons r0
  obtain ⟨v2, vs2, d2, ds2, p2, q2, hvs2, rfl, rfl, h2, r2⟩ := trodAll_cons r1
  obtain ⟨rfl, rfl, rfl⟩ := trodAll_nil r2
  obtain rfl : args = #[v0, v1, v2] := by cases args; simp_all
  obtain ⟨rfl, rfl⟩ := trodVars_none hV
  have k0 := h0
  have k1 := h1
  have k2 := h2
  have lt0 : ∀ x ∈ p0, x.block < W.heap.size := by obtain ⟨m, hm⟩ := k0; exact DataW.trod_lt m _ _ _ hm
  have lt1 : ∀ x ∈ p1, x.block < W.heap.size := by obtain ⟨m, hm⟩ := k1; exact DataW.trod_lt m _ _ _ hm
  have lt2 : ∀ x ∈ p2, x.block < W.heap.size := by obtain ⟨m, hm⟩ := k2; exact DataW.trod_lt m _ _ _ hm
  obtain ⟨k, rfl, rfl, rfl, w0⟩ := open_int Try.underlying3 (hval 0 3 v0 rfl rfl) h0
  obtain ⟨a1, c1, bs, rfl, hB, _, hl1, hm1, _⟩ := open_nums Try.underlying36 Try.underlying3 (by kernel_rfl) (hval 1 36 v1 rfl rfl) h1
  obtain ⟨a2', l2, c2', rfl⟩ := okWide_slice Try.underlying81 (hval 2 81 v2 rfl rfl)
  obtain ⟨n2, g2⟩ := h2
  obtain ⟨a2, c2, us, e2, hU, hl2, hm2, hok, hdl⟩ := open_usgF (x := (d2, p2)) Try.underlying81 Try.underlying70 (by kernel_rfl) rfl rfl rfl rfl (by kernel_rfl) (by kernel_rfl) (by kernel_rfl) (by kernel_rfl) Try.underlying3 Try.underlying3 Try.underlying3 Try.underlying4 (show DataW.trod enc Try.prog W 0 (fun _ => true) true n2 81 [.slice a2' l2 c2'] = some (d2, p2) from g2)
  have hfew : us.length ≤ 4398046510976 := by
    rcases hdl with h | ⟨es, spare, hd, hes⟩
    · omega
    · have := places_sized hsz (j := 2) (t := 81) (e := 70) (c := us.length + spare.length) rfl rfl Try.underlying81 (.inr ⟨es, spare, hd, by rw [hes]⟩)
      rw [bytesUs] at this
      omega
  clear hA0 hval0
  have hgs := walk k bs us a1 a2 c1 c2 W hB hU hok hfew
  rw [← e2] at hgs
  refine hgs.mono fun e W' ⟨he, bel⟩ => ?_
  subst he
  exact ⟨_, rfl, _, _, _, [], _, [], hW', trodAll_mk1 (shut_bool Try.underlying4 _), (trodAll_cons_mk (Below.trod Try.laidOut (by kernel_rfl) (of_decide_eq_true (by kernel_rfl)) k0 bel lt0) (trodAll_cons_mk (Below.trod Try.laidOut (by kernel_rfl) (of_decide_eq_true (by kernel_rfl)) k1 bel lt1) (trodAll_cons_mk (Below.trod Try.laidOut (by kernel_rfl) (of_decide_eq_true (by kernel_rfl)) k2 bel lt2) trodAll_mk0))), rfl, bel.frame _, fun h => by cases h⟩

theorem over : Rows.coreKeepsRow.holds Try.pinned (OpenSpec.ofChange Rows.coreKeepsSpec) :=
  OpenClaim.holds_of_wide 6 Try.f6 rfl rfl rfl rfl rfl rfl rfl ⟨rfl, rfl, rfl, rfl, rfl⟩ rfl rfl rfl rfl rfl (by kernel_rfl) Try.func6 (by kernel_rfl)
    (of_decide_eq_true (by kernel_rfl)) (by unfold Func.isWrapper; first | (rw [if_pos (by decide +kernel)]; kernel_rfl) | (rw [if_neg (by decide +kernel)]; exact ⟨rfl, rfl⟩))
    (fun os started H enc _ => lifted os started H enc)

/-- THE STATEMENT -/
theorem proved : Rows.CoreKeepsSaid := over
#print axioms proved
end Go.Proofs.Ytcnkcbipkchoiag.coreKeeps
