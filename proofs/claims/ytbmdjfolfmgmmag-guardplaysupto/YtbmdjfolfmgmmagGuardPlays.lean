import Derived.Test.YtbmdjfolfmgmmagK27
import Derived.JoinedCond
namespace Go.Proofs.Ytbmdjfolfmgmmag.guardPlays
open Go.ChangeShapes Go.WideShapes Go.ChangeAt Go.RowKit Go.Joins
set_option linter.unusedVariables false
theorem walk (k : Int) (ts : List TurnM) (al : Option Addr) (cl : Nat) (w : World) (hT : Tns w al ts) (hml : ts.length ≤ 1048576) (hst : ∀ i, i < ts.length → (ts.getD i .zero).text.size ≤ 1048576) :
    Calls Try.prog 3 #[.int .i64 k, .slice al ts.length cl] w fun e w' => e = .returned (.bool true) ∧ Below w.heap.size w w' := by
  cases h : keyOk k with
  | false => exact gplays_bad k _ w h
  | true => exact gplays_good k ts al ts.length cl w h hT rfl hml hst
set_option maxRecDepth 100000 in
theorem lifted (os : Os) (started : os.Started) (H : Type) (enc : TypeId × Value → H) (F : Stop.Interp) :
    ReturnsInHanded {} Try.checked os 3 .any ((Rows.OpenSpec.upto Rows.guardPlaysSpec).pre6 enc Try.prog Try.f3 Rows.guardPlaysUptoRow.domain false) (((Rows.OpenSpec.upto Rows.guardPlaysSpec).at F).post enc Try.prog Try.f3 false true false false) := by
  refine returnsInHanded_of_cond (C := Try.checked) (s := Rows.OpenSpec.upto Rows.guardPlaysSpec) (k := Rows.uptoSmall) rfl Try.own started (by kernel_rfl) Try.func3
    (OpenSpec.witness (enc := enc) (C := Try.checked) (s := Rows.OpenSpec.upto Rows.guardPlaysSpec) (k := Rows.uptoSmall) rfl false ⟨#[], #[.int .i64 0, .slice none 0 0], []⟩ 8 (by kernel_rfl) (by kernel_rfl) (by kernel_rfl)
      (x := ([.lit (.int .i64 0), .nil], [], [])) (by kernel_rfl) rfl (by kernel_rfl)) ?_
  intro W base args ds gs before hval0 hW _ hk0 _
  have hval : ∀ (j : Nat) t v, Try.f3.params[j]? = some t → args[j]? = some v → Value.okWide Try.prog W .any base t v := hval0
  have hk : Rows.uptoSmall H (ds ++ gs) = true := hk0
  have hW' := hW
  obtain ⟨p, q, hA0, hV, rfl, hfz, hnd⟩ := hW
  have hA : DataW.TrodAll enc Try.prog W 0 (fun _ => true) true Try.f3.params.toList args.toList ds p := hA0
  rw [Try.params3] at hA hval
  obtain ⟨v0, vs0, d0, ds0, p0, q0, hargs, rfl, rfl, h0, r0⟩ := trodAll_cons hA
  obtain ⟨v1, vs1, d1, ds1, p1, q1, hvs, rfl, rfl, h1, r1⟩ := trodAll_cons r0
  obtain ⟨rfl, rfl, rfl⟩ := trodAll_nil r1
  obtain rfl : args = #[v0, v1] := by cases args; simp_all
  obtain ⟨rfl, rfl⟩ := trodVars_none hV
  have k0 := h0
  have k1 := h1
  have lt0 : ∀ x ∈ p0, x.block < W.heap.size := by obtain ⟨m, hm⟩ := k0; exact DataW.trod_lt m _ _ _ hm
  have lt1 : ∀ x ∈ p1, x.block < W.heap.size := by obtain ⟨m, hm⟩ := k1; exact DataW.trod_lt m _ _ _ hm
  obtain ⟨k, rfl, rfl, rfl, w0⟩ := open_int Try.underlying3 (hval 0 3 v0 rfl rfl) h0
  have hsm : Rows.uptoBulkAll [DataW.lit (.int .i64 k), d1] ≤ 1048576 := of_decide_eq_true hk
  simp only [Rows.uptoBulkAll] at hsm
  obtain ⟨a1', l1, c1', rfl⟩ := okWide_slice Try.underlying22 (hval 1 22 v1 rfl rfl)
  obtain ⟨n1, g1⟩ := h1
  obtain ⟨a1, c1, ts, e1, hT, hl1, hm1, hb1, hz1⟩ := open_tns (x := (d1, p1)) Try.underlying22 Try.underlying41 (by kernel_rfl) rfl rfl rfl (by kernel_rfl) (by kernel_rfl) (by kernel_rfl) Try.underlying3 Try.underlying3 Try.underlying9 (show DataW.trod enc Try.prog W 0 (fun _ => true) true n1 22 [.slice a1' l1 c1'] = some (d1, p1) from g1)
  have hb1' : ts.length ≤ Rows.uptoBulk d1 := hb1
  have hz1' : ∀ i, i < ts.length → (ts.getD i .zero).text.size ≤ Rows.uptoBulk d1 := hz1
  clear hA0 hval0
  have hgs := walk k ts a1 c1 W hT (by omega) (fun i hi => by have := hz1' i hi; omega)
  rw [← e1] at hgs
  refine hgs.mono fun e W' ⟨he, bel⟩ => ?_
  subst he
  exact ⟨_, rfl, _, _, _, [], _, [], hW', trodAll_mk1 (shut_bool Try.underlying4 _), (trodAll_cons_mk (Below.trod Try.laidOut (by kernel_rfl) (of_decide_eq_true (by kernel_rfl)) k0 bel lt0) (trodAll_cons_mk (Below.trod Try.laidOut (by kernel_rfl) (of_decide_eq_true (by kernel_rfl)) k1 bel lt1) trodAll_mk0)), rfl, bel.frame _, fun h => by cases h⟩
theorem over : Rows.guardPlaysUptoRow.holds Try.pinned (Rows.OpenSpec.upto Rows.guardPlaysSpec) :=
  OpenClaim.holds_of_cond 3 Try.f3 rfl rfl rfl rfl rfl rfl rfl ⟨rfl, rfl, rfl, rfl, rfl⟩ rfl rfl rfl rfl rfl (by kernel_rfl) Try.func3 (by kernel_rfl)
    (of_decide_eq_true (by kernel_rfl)) (by unfold Func.isWrapper; first | (rw [if_pos (by decide +kernel)]; kernel_rfl) | (rw [if_neg (by decide +kernel)]; exact ⟨rfl, rfl⟩))
    (fun os started H enc _ F => lifted os started H enc F)
/-- THE STATEMENT: the second form -/
theorem proved : Rows.GuardPlaysUptoSaid := over
#print axioms proved
end Go.Proofs.Ytbmdjfolfmgmmag.guardPlays
