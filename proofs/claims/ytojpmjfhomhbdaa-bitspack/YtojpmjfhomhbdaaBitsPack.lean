import Derived.Test.YtojpmjfhomhbdaaFrame
import Derived.Test.YtojpmjfhomhbdaaSame
import Derived.Test.YtojpmjfhomhbdaaPack
import Derived.Test.YtojpmjfhomhbdaaPackR
import Derived.Test.YtojpmjfhomhbdaaUnpack
import Derived.Test.YtojpmjfhomhbdaaUnpackG
namespace Go.Proofs.Ytojpmjfhomhbdaa.bitsPack
open Go.ChangeShapes Go.WideShapes Go.ChangeAt Go.RowKit
open Go.ChangeMaps (open_string shut_string)
set_option linter.unusedVariables false

theorem unpackL_len (s : ByteArray) (n : Int) : (unpackL s n).length ≤ maxLen := by
  unfold unpackL
  split
  · rename_i h
    rw [unpackTo_length]
    unfold unpackErr at h
    unfold maxLen
    split at h
    · simp at h
    · split at h
      · simp at h
      · omega
  · simp

theorem bits_of {zs : List Int} (hy : Bytes zs) (h : errOf zs = 0) : Bits zs := fun k => ⟨(hy.at k).1, (err_zero h).1 k⟩

set_option maxHeartbeats 1000000 in
theorem walk (zs : List Int) (a0 : Option Addr) (c0 : Nat) (s : ByteArray) (n : Int) (w : World) (h0 : Rd .u8 w a0 zs) (hl : zs.length ≤ maxLen) (hy : Bytes zs) (hs : s.size ≤ 140737488355328) :
    Calls Try.prog 4 #[.slice a0 zs.length c0, .string s, .int .i64 n] w fun e w' => e = .returned (.bool true) ∧ Below w.heap.size w w' := by
  have hL := unpackL_len s n
  by_cases he : errOf zs = 0
  · have hb := bits_of hy he
    have hz := (err_zero he).2
    have HE : Hid (errOf zs = 0) := he
    go_enter Try.func4, Try.ntmps4
    clear he
    go_wp2_with fail
    refine (pack_ok zs a0 c0 _ h0 hb hz HE.out).mono ?_
    rintro e w1 ⟨rfl, hb1⟩
    have h1 := h0.below hb1
    go_wp2_with fail
    refine (unpack_any s n _ hs).mono ?_
    rintro e w2 ⟨v2, rfl, hown2, hb2⟩
    obtain ⟨a2, c2, rfl, -⟩ := hown2.shape
    have h2 := h1.below hb2
    clear h1
    go_wp2_with fail
    refine (rbits_any zs a0 c0 _ h2 hl hy).mono ?_
    rintro e w3 ⟨rfl, rfl⟩
    rw [HE.out]
    go_wp2_with fail
    refine (rpack_ok zs a0 c0 _ h2 hb hz).mono ?_
    rintro e w4 ⟨rfl, hb4⟩
    go_wp2_with fail
    refine (runpack_any s n _ hs).mono ?_
    rintro e w5 ⟨v5, rfl, hown5, hb5⟩
    obtain ⟨a5, c5, rfl, -⟩ := hown5.shape
    have hr2 := (hown2.rd.below hb4).below hb5
    go_wp2_with fail
    refine (same_bits _ _ a2 a5 c2 c5 _ hr2 hown5.rd hL hL).mono ?_
    rintro e w6 ⟨rfl, hb6⟩
    rw [decide_eq_true rfl]
    go_wp2
    go_ret
    exact ⟨rfl, bthen (bthen (bthen (bthen hb1 hb2) hb4) hb5) hb6⟩
  · have hne : (errOf zs == 0) = false := by simpa using he
    go_enter Try.func4, Try.ntmps4
    go_wp2_with fail
    refine (pack_bad zs a0 c0 _ h0 hl he).mono ?_
    rintro e w1 ⟨rfl, rfl⟩
    clear he
    go_wp2_with fail
    refine (unpack_any s n _ hs).mono ?_
    rintro e w2 ⟨v2, rfl, hown2, hb2⟩
    obtain ⟨a2, c2, rfl, -⟩ := hown2.shape
    have h2 := h0.below hb2
    go_wp2_with fail
    refine (rbits_any zs a0 c0 _ h2 hl hy).mono ?_
    rintro e w3 ⟨rfl, rfl⟩
    go_wp2_with fail
    refine (runpack_any s n _ hs).mono ?_
    rintro e w5 ⟨v5, rfl, hown5, hb5⟩
    obtain ⟨a5, c5, rfl, -⟩ := hown5.shape
    have hr2 := hown2.rd.below hb5
    go_wp2_with fail
    refine (same_bits _ _ a2 a5 c2 c5 _ hr2 hown5.rd hL hL).mono ?_
    rintro e w6 ⟨rfl, hb6⟩
    rw [decide_eq_true rfl]
    go_wp2
    go_ret
    exact ⟨rfl, bthen (bthen hb2 hb5) hb6⟩

/-! ### THE ROW's STEP -/
set_option maxRecDepth 100000 in
theorem lifted (os : Os) (started : os.Started) (H : Type) (enc : TypeId × Value → H) :
    ReturnsInHanded {} Try.checked os 4 .any (Rows.bitsPackSpec.pre6 enc Try.prog Try.f4 Rows.bitsPackRow.domain false) (Rows.bitsPackSpec.post enc Try.prog Try.f4 false true false false) := by
  refine returnsInHanded_of_change_sized (C := Try.checked) Try.own started (by kernel_rfl) Try.func4
    (ChangeSpec.witness6 (enc := enc) (C := Try.checked) false ⟨#[], #[.slice none 0 0, .string ByteArray.empty, .int .i64 0], []⟩ 8 (by kernel_rfl) (by kernel_rfl) (by kernel_rfl) (by kernel_rfl)) ?_
  intro W base args ds gs before hval0 hW hcnd hsz0 _
  have hval : ∀ (j : Nat) t v, Try.f4.params[j]? = some t → args[j]? = some v → Value.okWide Try.prog W .any base t v := hval0
  have hsz : (DataW.weightsEach Try.prog (Try.f4.params.toList ++ Rows.bitsPackSpec.plain.varTypes Try.prog) (ds ++ gs)).all (· ≤ reachBytes) = true := hsz0
  have hW' := hW
  obtain ⟨p, q, hA0, hV, rfl, hfz, hnd⟩ := hW
  have hA : DataW.TrodAll enc Try.prog W 0 (fun _ => true) true Try.f4.params.toList args.toList ds p := hA0
  rw [Try.params4] at hA hval hsz
  obtain ⟨v0, vs0, d0, ds0, p0, q0, hargs, rfl, rfl, h0, r0⟩ := trodAll_cons hA
  obtain ⟨v1, vs1, d1, ds1, p1, q1, rfl, rfl, rfl, h1, r1⟩ := trodAll_cons r0
  obtain ⟨v2, vs2, d2, ds2, p2, q2, rfl, rfl, rfl, h2, r2⟩ := trodAll_cons r1
  obtain ⟨rfl, rfl, rfl⟩ := trodAll_nil r2
  obtain rfl : args = #[v0, v1, v2] := by cases args; simp_all
  obtain ⟨rfl, rfl⟩ := trodVars_none hV
  have k0 := h0
  have lt0 : ∀ x ∈ p0, x.block < W.heap.size := by obtain ⟨m, hm⟩ := k0; exact DataW.trod_lt m _ _ _ hm
  obtain ⟨a0, c0, zs, rfl, w0, wf0, hlc0, hc0, hp0⟩ := open_nums Try.underlying27 Try.underlying5 Try.cells5 (hval 0 27 v0 rfl rfl) h0
  obtain ⟨a1, rfl, rfl, rfl, w1⟩ := open_string Try.underlying9 (hval 1 9 v1 rfl rfl) h1
  obtain ⟨a2, rfl, rfl, rfl, w2⟩ := open_int Try.underlying3 (hval 2 3 v2 rfl rfl) h2
  have hs1' := text_sized a1 (sized_string hsz (j := 1) (t := 9) rfl rfl)
  clear hA0 hval0
  refine (walk zs a0 c0 a1 a2 W w0 (by omega) (bytes_of_wf wf0) hs1').mono fun e W' ⟨he, bel⟩ => ?_
  subst he
  exact ⟨_, rfl, _, _, _, [], _, [], hW', trodAll_mk1 (shut_bool Try.underlying4 _), (trodAll_cons_mk (Below.trod Try.laidOut (by kernel_rfl) (of_decide_eq_true (by kernel_rfl)) k0 bel lt0) (trodAll_cons_mk (shut_string Try.underlying9 w1) (trodAll_cons_mk (shut_int Try.underlying3 w2) trodAll_mk0))), rfl, bel.frame _, fun h => by cases h⟩

theorem over : Rows.bitsPackRow.holds Try.pinned (OpenSpec.ofChange Rows.bitsPackSpec) :=
  OpenClaim.holds_of_wide 4 Try.f4 rfl rfl rfl rfl rfl rfl rfl ⟨rfl, rfl, rfl, rfl, rfl⟩ rfl rfl rfl rfl rfl (by kernel_rfl) Try.func4 (by kernel_rfl)
    (of_decide_eq_true (by kernel_rfl)) (by unfold Func.isWrapper; first | (rw [if_pos (by decide +kernel)]; kernel_rfl) | (rw [if_neg (by decide +kernel)]; exact ⟨rfl, rfl⟩))
    (fun os started H enc _ => lifted os started H enc)

/-- THE STATEMENT -/
theorem proved : Rows.BitsPackSaid := over
#print axioms proved
end Go.Proofs.Ytojpmjfhomhbdaa.bitsPack
