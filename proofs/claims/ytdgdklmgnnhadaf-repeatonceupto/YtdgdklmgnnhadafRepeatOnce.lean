import Derived.Test.YtdgdklmgnnhadafK41
import Derived.JoinedCond
namespace Go.Proofs.Ytdgdklmgnnhadaf.repeatOnce
open Go.ChangeShapes Go.WideShapes Go.ChangeAt Go.RowKit Go.Joins
set_option linter.unusedVariables false
theorem walk (win : Int) (uts : List ByteArray) (fts : List FateM) (au af : Option Addr) (cu cf : Nat) (w : World) (hU : Txs w au uts) (hmu : uts.length ≤ maxLen) (hst : ∀ i, i < uts.length → (uts.getD i ByteArray.empty).size ≤ manyB) (hF : Fts w af fts) (hmf : fts.length ≤ 1048576) :
    Calls Try.prog 6 #[.int .i64 win, .slice au uts.length cu, .slice af fts.length cf] w fun e w' => e = .returned (.bool true) ∧ Below w.heap.size w w' := by
  by_cases h : win < 1 ∨ 32 < win
  · exact ronce_bad rep_laws win _ _ w h
  · exact ronce_good rep_laws win uts fts au af uts.length cu fts.length cf w (by omega) (by omega) hU rfl hmu hst hF rfl (by omega)
set_option maxRecDepth 100000 in
theorem lifted (os : Os) (started : os.Started) (H : Type) (enc : TypeId × Value → H) (F : Stop.Interp) :
    ReturnsInHanded {} Try.checked os 6 .any ((Rows.OpenSpec.upto Rows.repeatOnceSpec).pre6 enc Try.prog Try.f6 Rows.repeatOnceUptoRow.domain false) (((Rows.OpenSpec.upto Rows.repeatOnceSpec).at F).post enc Try.prog Try.f6 false true false false) := by
  refine returnsInHanded_of_cond (C := Try.checked) (s := Rows.OpenSpec.upto Rows.repeatOnceSpec) (k := Rows.uptoSmall) rfl Try.own started (by kernel_rfl) Try.func6
    (OpenSpec.witness (enc := enc) (C := Try.checked) (s := Rows.OpenSpec.upto Rows.repeatOnceSpec) (k := Rows.uptoSmall) rfl false ⟨#[], #[.int .i64 0, .slice none 0 0, .slice none 0 0], []⟩ 8 (by kernel_rfl) (by kernel_rfl) (by kernel_rfl)
      (x := ([.lit (.int .i64 0), .nil, .nil], [], [])) (by kernel_rfl) rfl (by kernel_rfl)) ?_
  intro W base args ds gs before hval0 hW _ hk0 _
  have hval : ∀ (j : Nat) t v, Try.f6.params[j]? = some t → args[j]? = some v → Value.okWide Try.prog W .any base t v := hval0
  have hk : Rows.uptoSmall H (ds ++ gs) = true := hk0
  have hW' := hW
  obtain ⟨p, q, hA0, hV, rfl, hfz, hnd⟩ := hW
  have hA : DataW.TrodAll enc Try.prog W 0 (fun _ => true) true Try.f6.params.toList args.toList ds p := hA0
  rw [Try.params6] at hA hval
  obtain ⟨v0, vs0, d0, ds0, p0, q0, hargs, rfl, rfl, h0, r0⟩ := trodAll_cons hA
  obtain ⟨v1, vs1, d1, ds1, p1, q1, hvs, rfl, rfl, h1, r1⟩ := trodAll_cons r0
  obtain ⟨v2, vs2, d2, ds2, p2, q2, hvs2, rfl, rfl, h2, r2⟩ := trodAll_cons r1
  obtain ⟨rfl, rfl, rfl⟩ := trodAll_nil r2
  obtain rfl : args = #[v0, v1, v2] := by cases args; simp_all
  obtain ⟨rfl, rfl⟩ := trodVars_none hV
  have k0 := h0
  have k1 := h1
  have k2 := h2
  have lt0 : ∀ x ∈ p0, x.block < W.heap.size := by obtain ⟨m, hm⟩ := k0; exact DataW.trod_lt m _ _ _ hm
  have lt1 : ∀ x ∈ p1, x.block < W.heap.size := by obtain ⟨m, hm⟩ := k1; exact DataW.trod_lt m _ _ _ hm
  have lt2 : ∀ x ∈ p2, x.block < W.heap.size := by obtain ⟨m, hm⟩ := k2; exact DataW.trod_lt m _ _ _ hm
  obtain ⟨win, rfl, rfl, rfl, w0⟩ := open_int Try.underlying3 (hval 0 3 v0 rfl rfl) h0
  have hsm : Rows.uptoBulkAll [DataW.lit (.int .i64 win), d1, d2] ≤ 1048576 := of_decide_eq_true hk
  simp only [Rows.uptoBulkAll] at hsm
  obtain ⟨a1', l1, c1', rfl⟩ := okWide_slice Try.underlying67 (hval 1 67 v1 rfl rfl)
  obtain ⟨a2', l2, c2', rfl⟩ := okWide_slice Try.underlying79 (hval 2 79 v2 rfl rfl)
  obtain ⟨n1, g1⟩ := h1
  obtain ⟨n2, g2⟩ := h2
  obtain ⟨a1, c1, uts, e1, hU, hl1, hm1, hb1, hz1⟩ := open_txsF (x := (d1, p1)) Try.underlying67 Try.underlying9 (by kernel_rfl) (show DataW.trod enc Try.prog W 0 (fun _ => true) true n1 67 [.slice a1' l1 c1'] = some (d1, p1) from g1)
  obtain ⟨a2, c2, fts, e2, hF, hl2, hm2, hb2⟩ := open_ftsF (x := (d2, p2)) Try.underlying79 Try.underlying83 (by kernel_rfl) rfl rfl rfl (by kernel_rfl) (by kernel_rfl) (by kernel_rfl) Try.underlying3 Try.underlying3 Try.underlying4 (show DataW.trod enc Try.prog W 0 (fun _ => true) true n2 79 [.slice a2' l2 c2'] = some (d2, p2) from g2)
  have hb1' : uts.length ≤ Rows.uptoBulk d1 := hb1
  have hz1' : ∀ i, i < uts.length → (uts.getD i ByteArray.empty).size ≤ Rows.uptoBulk d1 := hz1
  have hb2' : fts.length ≤ Rows.uptoBulk d2 := hb2
  clear hA0 hval0
  have hgs := walk win uts fts a1 a2 c1 c2 W hU (Nat.le_trans hl1 hm1) (fun i hi => by have := hz1' i hi; unfold manyB; omega) hF (by omega)
  rw [← e1, ← e2] at hgs
  refine hgs.mono fun e W' ⟨he, bel⟩ => ?_
  subst he
  exact ⟨_, rfl, _, _, _, [], _, [], hW', trodAll_mk1 (shut_bool Try.underlying4 _), (trodAll_cons_mk (Below.trod Try.laidOut (by kernel_rfl) (of_decide_eq_true (by kernel_rfl)) k0 bel lt0) (trodAll_cons_mk (Below.trod Try.laidOut (by kernel_rfl) (of_decide_eq_true (by kernel_rfl)) k1 bel lt1) (trodAll_cons_mk (Below.trod Try.laidOut (by kernel_rfl) (of_decide_eq_true (by kernel_rfl)) k2 bel lt2) trodAll_mk0))), rfl, bel.frame _, fun h => by cases h⟩
theorem over : Rows.repeatOnceUptoRow.holds Try.pinned (Rows.OpenSpec.upto Rows.repeatOnceSpec) :=
  OpenClaim.holds_of_cond 6 Try.f6 rfl rfl rfl rfl rfl rfl rfl ⟨rfl, rfl, rfl, rfl, rfl⟩ rfl rfl rfl rfl rfl (by kernel_rfl) Try.func6 (by kernel_rfl)
    (of_decide_eq_true (by kernel_rfl)) (by unfold Func.isWrapper; first | (rw [if_pos (by decide +kernel)]; kernel_rfl) | (rw [if_neg (by decide +kernel)]; exact ⟨rfl, rfl⟩))
    (fun os started H enc _ F => lifted os started H enc F)
/-- THE STATEMENT: the second form -/
theorem proved : Rows.RepeatOnceUptoSaid := over
#print axioms proved
end Go.Proofs.Ytdgdklmgnnhadaf.repeatOnce
