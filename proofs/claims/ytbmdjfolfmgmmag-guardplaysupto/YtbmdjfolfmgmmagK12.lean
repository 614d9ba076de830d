import Derived.Test.YtbmdjfolfmgmmagK11
namespace Go.Proofs.Ytbmdjfolfmgmmag
open Go.ChangeShapes Go.WideShapes Go.ChangeAt Go.RowKit
def SdM.freshN (m : SdM) (c : Nat) : Nat := c + 1 - m.beg
def SdM.confirm (m : SdM) (c : Nat) : SdM := ⟨m.key, m.beg + m.freshN c, m.wait.drop (m.freshN c)⟩
theorem gconf_bad {w : World} {g : Nat} {v : Value} {m : SdM} {c : Int} (h : PSd w g v m) (hc : c < 0 ∨ (m.nxt : Int) ≤ c) :
    Calls Try.prog 10 #[.pointer (some ⟨g, 0, none⟩), .int .i64 c] w fun e w' => e = .returned (.int .i64 6) ∧ Below w.heap.size w w' := by
  have hn := gnext_any h
  obtain ⟨M, eM⟩ : ∃ M : Int, M = (m.nxt : Nat) := ⟨_, rfl⟩
  rw [← eM] at hn hc
  clear h eM
  by_cases h0 : c < 0
  · clear hn hc
    go_enter Try.func10, Try.ntmps10
    go_wp2_with fail
    go_ret
    exact ⟨rfl, Below.refl _ _⟩
  · have h1 : M ≤ c := by omega
    go_enter Try.func10, Try.ntmps10
    go_wp2_with (go_at_call 22; refine hn.mono ?_; rintro e w1 ⟨rfl, hb1⟩)
    go_ret
    exact ⟨rfl, hb1⟩
theorem getD_dropG (L : List ByteArray) (f i : Nat) : (L.drop f).getD i ByteArray.empty = L.getD (f + i) ByteArray.empty := by simp [List.getD, List.getElem?_drop]
theorem SdM.Ok.confirm {m : SdM} {c : Nat} (h : m.Ok) (hc : c < m.nxt) : (m.confirm c).Ok := by
  have hf : m.beg + m.wait.length ≤ 16777216 := h.few
  have hc' : c < m.beg + m.wait.length := hc
  refine ⟨h.key, ?_, fun i hi => ?_⟩
  · show m.beg + m.freshN c + (m.wait.drop (m.freshN c)).length ≤ 16777216
    rw [List.length_drop]
    unfold SdM.freshN
    omega
  · show ((m.wait.drop (m.freshN c)).getD i ByteArray.empty).size ≤ 500
    have hi' : i < (m.wait.drop (m.freshN c)).length := hi
    rw [List.length_drop] at hi'
    rw [getD_dropG]
    exact h.small _ (by omega)
theorem splice_atG {cur : List Value} {o : Nat} {cs : List Value} (h : o + cs.length ≤ cur.length) (t : Nat) : (splice cur o cs)[t]? = if o ≤ t ∧ t < o + cs.length then cs[t - o]? else cur[t]? := by
  unfold splice
  by_cases h1 : t < o
  · rw [List.getElem?_append_left (by rw [List.length_take]; omega), List.getElem?_take_of_lt h1, if_neg (by omega)]
  · have hl : (cur.take o).length = o := by rw [List.length_take]; omega
    rw [List.getElem?_append_right (by omega), hl]
    by_cases h2 : t < o + cs.length
    · rw [List.getElem?_append_left (by omega), if_pos ⟨by omega, h2⟩]
    · rw [List.getElem?_append_right (by omega), List.getElem?_drop, if_neg (by omega)]
      congr 1
      omega
/-- The first f of the texts are cleared. -/
theorem run_clearMid {w : World} {g o n c f : Nat} {cur : List Value} (hA : At w g 9 cur) (hn : n ≤ c) (hl : o + c ≤ cur.length) (hf : f ≤ n) (t ty : TypeId) (ht : Try.prog.underlying t = some (.slice 9)) :
    ∃ cur', (Builtin.clear_ #[t] ty #[.slice (some ⟨g, o, none⟩) f c]).run Try.prog w = .ok (.tuple #[]) (w.setRow g cur'.toArray) ∧ At (w.setRow g cur'.toArray) g 9 cur' ∧ cur'.length = cur.length ∧ ∀ i, o + f ≤ i → cur'[i]? = cur[i]? := by
  obtain ⟨i0, hi, hz0, hz1, hz2⟩ := info_parts Try.infoTx
  rcases Nat.eq_zero_or_pos f with rfl | hp
  · refine ⟨cur, ?_, hA.set, rfl, fun i _ => rfl⟩
    rw [setRow_self w g cur.toArray _ _ hA]
    exact run_clear0 w t 9 ty ht _ _
  · have hzl : (Builtin.zeroCells (Value.string { data := #[] }).cells f).toList.length = f := by rw [Array.length_toList, size_zeroCells]; exact Nat.mul_one f
    refine ⟨splice cur o (Builtin.zeroCells (Value.string { data := #[] }).cells f).toList, run_clearK w t 9 ty 9 i0 _ ht hi hz0 g o f c cur hA hp ?_ ?_, hA.set, ?_, fun i hi' => ?_⟩
    · show o + f * 1 ≤ cur.length
      omega
    · intro u hu
      have := zero_mem hu
      simp [Value.cells] at this
      subst this
      rfl
    · exact length_splice _ _ _ (by rw [hzl]; omega)
    · rw [splice_atG (by rw [hzl]; omega), hzl, if_neg (by omega)]
theorem run_same {x : Sem Value} {w w1 w2 : World} {v u : Value} (h : x.run Try.prog w = .ok v w2) (k : x.run Try.prog w = .ok u w1) : w1 = w2 := by
  rw [h] at k
  injection k with _ e
  exact e.symm
/-- What stands when the first f texts are cut off. -/
theorem conf_cut {w : World} {g gv o cp f : Nat} (q : Nat) {m : SdM} (h : PSd w g (.slice (some ⟨gv, o, none⟩) m.wait.length cp) m) (hf : f ≤ m.wait.length) (hq : q = o + f ∨ (cp = f ∧ q = o)) (w1 : World) (hb1 : Below w.heap.size w w1) :
    ∃ w2, (Builtin.clear_ #[32] 0 #[.slice (some ⟨gv, o, none⟩) f cp]).run Try.prog w1 = .ok (.tuple #[]) w2 ∧ w2.cell? ⟨g, 1, none⟩ = some (.int .i64 (m.beg : Int)) ∧ w2.cell? ⟨g, 2, none⟩ = some (.slice (some ⟨gv, o, none⟩) m.wait.length cp) ∧ w2.frozen? ⟨g, 1, none⟩ = false ∧ w2.frozen? ⟨g, 2, none⟩ = false ∧
      Kept (sdF g (.slice (some ⟨gv, o, none⟩) m.wait.length cp)) w ((w2.setCell ⟨g, 2, none⟩ (.slice (some ⟨gv, q, none⟩) (m.wait.length - f) (cp - f))).setCell ⟨g, 1, none⟩ (.int .i64 ((m.beg : Int) + (f : Int)))) ∧
      (SdM.Ok ⟨m.key, m.beg + f, m.wait.drop f⟩ → PSd ((w2.setCell ⟨g, 2, none⟩ (.slice (some ⟨gv, q, none⟩) (m.wait.length - f) (cp - f))).setCell ⟨g, 1, none⟩ (.int .i64 ((m.beg : Int) + (f : Int)))) g (.slice (some ⟨gv, q, none⟩) (m.wait.length - f) (cp - f)) ⟨m.key, m.beg + f, m.wait.drop f⟩) := by
  have h1 := h.kept (S := []) (Kept.of_below hb1) (by simp)
  have hgn : g ≠ gv := fun e => h.ne (by simp [blkG, e])
  rcases h1.mid with ⟨h', _⟩ | ⟨gv', o', cp', cur, h', hA, r1, r2, r3, r4⟩
  · cases h'
  simp only [Value.slice.injEq, Option.some.injEq, Addr.mk.injEq] at h'
  obtain ⟨⟨rfl, rfl, -⟩, -, rfl⟩ := h'
  obtain ⟨cur', hR, hA', hl', hsame⟩ := run_clearMid hA r1 r3 hf 32 0 Try.underlying32
  have hk2 := kept_setRow w1 gv cur'.toArray
  have hH2 := h1.hd.kept hk2 (by simpa using hgn)
  have hH4 := (hH2.setCellG 2 (.slice (some ⟨gv, q, none⟩) (m.wait.length - f) (cp - f))).setCellG 1 (.int .i64 ((m.beg : Int) + (f : Int)))
  have hk4 : Kept [g] (w1.setRow gv cur'.toArray) (((w1.setRow gv cur'.toArray).setCell ⟨g, 2, none⟩ (.slice (some ⟨gv, q, none⟩) (m.wait.length - f) (cp - f))).setCell ⟨g, 1, none⟩ (.int .i64 ((m.beg : Int) + (f : Int)))) := ((Kept.refl _ _).setCell (by simp) _).setCell (by simp) _
  refine ⟨_, hR, hH2.cell 1, hH2.cell 2, hH2.free 1, hH2.free 2, ?_, fun hok => ⟨?_, ?_, ?_, hok⟩⟩
  · exact ((Kept.of_below hb1).trans (hk2.wider (fun x hx => by rw [List.mem_singleton] at hx; subst hx; simp [sdF, blkG]))).trans (hk4.wider (fun x hx => by rw [List.mem_singleton] at hx; subst hx; simp [sdF]))
  · rw [show (((⟨m.key, m.beg + f, m.wait.drop f⟩ : SdM).beg : Nat) : Int) = (m.beg : Int) + (f : Int) by show ((m.beg + f : Nat) : Int) = _; omega]
    exact hH4
  · refine .inr ⟨gv, q, cp - f, cur', by rw [List.length_drop], hA'.kept hk4 (by simpa using fun e => hgn e.symm), ?_, by omega, by omega, fun i hi => ?_⟩
    · rw [List.length_drop]; omega
    · have hi' : i < (m.wait.drop f).length := hi
      rw [List.length_drop] at hi'
      have hq' : q = o + f := by omega
      rw [hq', hsame _ (by omega), show o + f + i = o + (f + i) by omega, r4 _ (by omega)]
      show _ = some (Value.string ((m.wait.drop f).getD i ByteArray.empty))
      rw [getD_dropG]
  · simp only [blkG, List.mem_singleton]
    exact hgn
set_option maxRecDepth 100000 in
set_option maxHeartbeats 1000000 in
theorem gconf_ok {w : World} {g : Nat} {v : Value} {m : SdM} {c : Nat} (h : PSd w g v m) (hc : c < m.nxt) :
    Calls Try.prog 10 #[.pointer (some ⟨g, 0, none⟩), .int .i64 (c : Int)] w (GsPost w g v (m.confirm c) (.int .i64 0)) := by
  have hn := gnext_any h
  have hok := h.ok.confirm hc
  have hf : m.beg + m.wait.length ≤ 16777216 := h.ok.few
  have hc' : c < m.beg + m.wait.length := hc
  obtain ⟨M, eM⟩ : ∃ M : Int, M = (m.nxt : Nat) := ⟨_, rfl⟩
  rw [← eM] at hn
  have hI : (c : Int) < M := by omega
  clear eM hc
  have c1 := fun w1 (hb1 : Below w.heap.size w w1) => (h.kept (S := []) (Kept.of_below hb1) (by simp)).hd.cell 1
  have c2 := fun w1 (hb1 : Below w.heap.size w w1) => (h.kept (S := []) (Kept.of_below hb1) (by simp)).hd.cell 2
  by_cases hcase : m.beg ≤ c + 1
  · obtain ⟨f, hf1⟩ : ∃ f, c + 1 = m.beg + f := ⟨c + 1 - m.beg, by omega⟩
    have hfl : f ≤ m.wait.length := by omega
    have hcf : m.confirm c = ⟨m.key, m.beg + f, m.wait.drop f⟩ := by unfold SdM.confirm SdM.freshN; rw [show c + 1 - m.beg = f by omega]
    rw [hcf] at hok ⊢
    have hsub : (c : Int) + 1 - (m.beg : Int) = (f : Int) := by omega
    rcases h.mid with ⟨rfl, h0⟩ | ⟨gv, o, cp, cur, rfl, hA, r1, r2, r3, r4⟩
    · have hf0 : f = 0 := by rw [h0] at hfl; simpa using hfl
      subst hf0
      have HP := hid h
      have hm : m = ⟨m.key, m.beg + 0, m.wait.drop 0⟩ := rfl
      rw [← hm]
      have HC1 := hid c1
      have HC2 := hid c2
      have HZ := hid h.hd
      obtain ⟨C, eC⟩ : ∃ C : Int, C = (c : Int) := ⟨_, rfl⟩
      rw [← eC] at hsub hI ⊢
      have hC0 : 0 ≤ C ∧ C ≤ 16777216 := by omega
      have hcl := fun W => run_clear0 (P := Try.prog) W 32 9 0 Try.underlying32 none 0
      clear hcf hok c1 c2 hc' hf1 hcase eC h hm
      go_enter Try.func10, Try.ntmps10
      go_wp2_with (first
        | (go_at_call 22; refine hn.mono ?_; rintro e w1 ⟨rfl, hb1⟩; have k1 : w1.cell? ⟨g, 1, none⟩ = some (.int .i64 (m.beg : Int)) := HC1.out w1 hb1; have k2 : w1.cell? ⟨g, 2, none⟩ = some (.slice none 0 0) := HC2.out w1 hb1; have q1 := (HZ.out.kept (S := []) (Kept.of_below hb1) (by simp)).free 1; have q2 := (HZ.out.kept (S := []) (Kept.of_below hb1) (by simp)).free 2))
      go_ret
      have hk : Kept [g] w1 ((w1.setCell ⟨g, 2, none⟩ (.slice none 0 0)).setCell ⟨g, 1, none⟩ (.int .i64 (m.beg : Int))) := ((Kept.refl _ _).setCell (by simp) _).setCell (by simp) _
      refine ⟨rfl, ((Kept.of_below hb1).trans (hk.wider (by simp [sdF]))), _, ⟨?_, .inl ⟨rfl, h0⟩, by simp [blkG], HP.out.ok⟩, fun x hx => .inl hx⟩
      exact ((HZ.out.kept (S := []) (Kept.of_below hb1) (by simp)).setCellG 2 (.slice none 0 0)).setCellG 1 (.int .i64 (m.beg : Int))
    · have HK := hid hok
      have HC1 := hid c1
      have HC2 := hid c2
      obtain ⟨C, eC⟩ : ∃ C : Int, C = (c : Int) := ⟨_, rfl⟩
      rw [← eC] at hsub hI ⊢
      have hC0 : 0 ≤ C ∧ C ≤ 16777216 := by omega
      by_cases hcp : cp = f
      · have hC := fun w1 hb1 => conf_cut o h hfl (.inr ⟨hcp, rfl⟩) w1 hb1
        subst hcp
        clear hcf hok c1 c2 r4 hA hc' hf1 hcase eC h r3
        obtain rfl : m.wait.length = cp := by omega
        simp only [Nat.sub_self] at hC
        have HC := hid hC
        clear hC
        go_enter Try.func10, Try.ntmps10
        go_wp2_with (first
          | (go_at_call 22; refine hn.mono ?_; rintro e w1 ⟨rfl, hb1⟩; have k1 : w1.cell? ⟨g, 1, none⟩ = some (.int .i64 (m.beg : Int)) := HC1.out w1 hb1; have k2 : w1.cell? ⟨g, 2, none⟩ = some (.slice (some ⟨gv, o, none⟩) m.wait.length m.wait.length) := HC2.out w1 hb1; obtain ⟨w2, hR, x1, x2, z1, z2, hE, hE2⟩ := HC.out w1 hb1; have HE := hid hE; have HE2 := hid hE2; clear hE hE2))
        go_ret
        exact ⟨rfl, HE.out, _, HE2.out HK.out, fun x hx => .inl hx⟩
      · have HC := hid (fun w1 hb1 => conf_cut (o + f) h hfl (.inl rfl) w1 hb1)
        clear hcf hok c1 c2 r4 hA hc' hf1 hcase eC h r3
        go_enter Try.func10, Try.ntmps10
        go_wp2_with (first
          | (go_at_call 22; refine hn.mono ?_; rintro e w1 ⟨rfl, hb1⟩; have k1 : w1.cell? ⟨g, 1, none⟩ = some (.int .i64 (m.beg : Int)) := HC1.out w1 hb1; have k2 : w1.cell? ⟨g, 2, none⟩ = some (.slice (some ⟨gv, o, none⟩) m.wait.length cp) := HC2.out w1 hb1; obtain ⟨w2, hR, x1, x2, z1, z2, hE, hE2⟩ := HC.out w1 hb1; have HE := hid hE; have HE2 := hid hE2; clear hE hE2))
        go_ret
        exact ⟨rfl, HE.out, _, HE2.out HK.out, fun x hx => .inl hx⟩
  · have hcf : m.confirm c = m := by unfold SdM.confirm SdM.freshN; rw [show c + 1 - m.beg = 0 by omega]; rfl
    rw [hcf] at hok ⊢
    have HC1 := hid c1
    have HC2 := hid c2
    have HP := hid h
    obtain ⟨C, eC⟩ : ∃ C : Int, C = (c : Int) := ⟨_, rfl⟩
    rw [← eC] at hI ⊢
    have hC0 : 0 ≤ C ∧ C ≤ 16777216 := by omega
    have hneg : C + 1 - (m.beg : Int) < 0 := by omega
    rcases h.mid with ⟨rfl, h0⟩ | ⟨gv, o, cp, cur, rfl, hA, r1, r2, r3, r4⟩
    · have hcl := fun W => run_clear0 (P := Try.prog) W 32 9 0 Try.underlying32 none 0
      have HZ := hid h.hd
      clear hcf hok c1 c2 hc' hcase eC h
      go_enter Try.func10, Try.ntmps10
      go_wp2_with (first
        | (go_at_call 22; refine hn.mono ?_; rintro e w1 ⟨rfl, hb1⟩; have k1 : w1.cell? ⟨g, 1, none⟩ = some (.int .i64 (m.beg : Int)) := HC1.out w1 hb1; have k2 : w1.cell? ⟨g, 2, none⟩ = some (.slice none 0 0) := HC2.out w1 hb1; have q1 := (HZ.out.kept (S := []) (Kept.of_below hb1) (by simp)).free 1; have q2 := (HZ.out.kept (S := []) (Kept.of_below hb1) (by simp)).free 2))
      go_ret
      have hk : Kept [g] w1 ((w1.setCell ⟨g, 2, none⟩ (.slice none 0 0)).setCell ⟨g, 1, none⟩ (.int .i64 (m.beg : Int))) := ((Kept.refl _ _).setCell (by simp) _).setCell (by simp) _
      refine ⟨rfl, ((Kept.of_below hb1).trans (hk.wider (by simp [sdF]))), _, ⟨?_, .inl ⟨rfl, h0⟩, by simp [blkG], HP.out.ok⟩, fun x hx => .inl hx⟩
      exact ((HZ.out.kept (S := []) (Kept.of_below hb1) (by simp)).setCellG 2 (.slice none 0 0)).setCellG 1 (.int .i64 (m.beg : Int))
    · have hC := fun w1 hb1 => conf_cut (f := 0) o h (Nat.zero_le _) (.inl rfl) w1 hb1
      have hm : (⟨m.key, m.beg + 0, m.wait.drop 0⟩ : SdM) = m := rfl
      simp only [Nat.sub_zero, hm, Int.natCast_zero, Int.add_zero] at hC
      have HC := hid hC
      have hcl := fun W => run_clear0 (P := Try.prog) W 32 9 0 Try.underlying32 (some ⟨gv, o, none⟩) cp
      have HK := hid hok
      clear hcf hok c1 c2 r4 hA hc' hcase eC h r3 hC hm
      go_enter Try.func10, Try.ntmps10
      go_wp2_with (first
        | (go_at_call 22; refine hn.mono ?_; rintro e w1 ⟨rfl, hb1⟩; have k1 : w1.cell? ⟨g, 1, none⟩ = some (.int .i64 (m.beg : Int)) := HC1.out w1 hb1; have k2 : w1.cell? ⟨g, 2, none⟩ = some (.slice (some ⟨gv, o, none⟩) m.wait.length cp) := HC2.out w1 hb1; obtain ⟨w2, hR, x1, x2, z1, z2, hE, hE2⟩ := HC.out w1 hb1; obtain rfl : w1 = w2 := (run_same hR (hcl w1)); have HE := hid hE; have HE2 := hid hE2; clear hE hE2))
      all_goals (go_ret; exact ⟨rfl, HE.out, _, HE2.out HK.out, fun x hx => .inl hx⟩)
end Go.Proofs.Ytbmdjfolfmgmmag
