import Derived.Test.YtmdfjhnibhmdkafDoorMgB
namespace Go.Proofs.YtmdfjhnibhmdkafDoor
open Go.ChangeShapes Go.WideShapes Go.ChangeAt Go.RowKit

/-! THE PROGRAM'S New: the walk. -/

theorem OwnSh.off {w : World} {B g : Nat} {v : Value} {l : List ShM} {cs : Array Value} {fr : Nat × Nat} (h : OwnSh w B v l) (hg : w.heap[g]? = some (.cells cs 75 fr)) : v.ownBlock ≠ some g := by
  intro e
  rcases h.2 with ⟨rfl, _⟩ | ⟨gb, cap, cur, rfl, _, h3, _⟩
  · cases e
  · have e' : gb = g := by simpa [Value.ownBlock] using e
    rw [e', hg] at h3
    simp at h3
theorem OwnSh.other {w : World} {B : Nat} {v : Value} {l : List ShM} (h : OwnSh w B v l) {p : Addr} (hne : v.ownBlock ≠ some p.block) (x : Value) : OwnSh (w.setCell p x) B v l := by
  refine ⟨h.1, ?_⟩
  rcases h.2 with h' | ⟨g, cap, cur, h1, h2, h3, h4⟩
  · exact .inl h'
  · have hgp : g ≠ p.block := fun e => hne (by rw [h1, ← e]; rfl)
    exact .inr ⟨g, cap, cur, h1, h2, (heap_setCell_other w p g x hgp).trans h3, h4⟩
/-- 'append(list, t)' of shares as a step of a region that draws its order. -/
theorem step_pushSh {W : World} {ops : Array Oper} {o : Oper} {a : Act} {K : Act → World → Prop} {Q : Exit → Act → World → Prop} {E : Prop} {v : Value} {l : List ShM} (B : Nat) (g : Nat) (t : ShM) (hown : OwnSh W B v l) (hgd : o.guard = none) (s x : Operand)
    (ho : o.op = .call { callee := .builtin .append, args := #[s, x], argTypes := #[73, 73] }) (hs : a.eval s = v) (hx : a.eval x = .slice (some ⟨g, 0, none⟩) 1 1) (hc : ∀ (k : Nat) u, t.cells[k]? = some u → W.cell? ⟨g, k, none⟩ = some u) (hlen : l.length < 1000) (hB : B ≤ W.heap.size)
    (h : ∀ v' w', OwnSh w' B v' (l ++ [t]) → W.grownBy w' v.ownBlock → K (a.put o.dst v') w') : if Region.wanted o (yielded ops a.tmps) = true then Oper.wp Tryd.prog o a W K Q else E := by
  have hw : Region.wanted o (yielded ops a.tmps) = true := by simp [Region.wanted, hgd]
  rw [if_pos hw]
  obtain ⟨i0, hi, hz0, hz1, hz2⟩ := info_parts Tryd.infoSh
  refine wp_append_own W s x 73 ho B 79 i0 (.agg #[.int .i64 0, .int .i64 0, .int .i64 0, .int .i64 0, .int .i64 0]) 5 40 Tryd.underlying73 hi hz0 hz1 hz2 rfl (by decide) v _ _ hs hown ⟨g, 0, none⟩ 1 1 t.cells hx rfl ?_ ?_ ?_ ?_ hB ?_
  · intro j u hj
    rw [Addr.add_lit, Nat.zero_add]
    exact hc j u hj
  · intro u hu; simp [ShM.cells] at hu; rcases hu with rfl | rfl | rfl | rfl | rfl <;> rfl
  · unfold maxLen; omega
  · omega
  · intro v' w' h1 h2 _
    refine h v' w' ?_ h2
    unfold OwnSh
    rw [List.length_append, cellsS_snoc]
    exact h1
/-- Behind an append to the list: what is stored at the pointer then. -/
theorem push_after {w w2 w3 : World} {B g : Nat} {v v3 : Value} {l m : List ShM} (hP : PSh w2 B g v l) (hb : Below B w w2) (hB : B ≤ w2.heap.size) (ho : OwnSh w3 B v3 m) (hg : w2.grownBy w3 v.ownBlock) : w3.cell? ⟨g, 0, none⟩ = some v ∧ w3.frozen? ⟨g, 0, none⟩ = false ∧ PSh (w3.setCell ⟨g, 0, none⟩ v3) B g v3 m ∧ Below B w (w3.setCell ⟨g, 0, none⟩ v3) := by
  have h3 : w3.heap[g]? = some (.cells #[v] 75 (0, 0)) := (hg.block g hP.lt (fun e => hP.ne e.symm)).trans hP.box
  have hs := heap_setCell_same w3 g 0 _ _ v3 h3
  refine ⟨by rw [cell_of_row _ _ _ _ _ _ h3]; rfl, frozen_of_row _ _ _ _ _ h3, ⟨hs, ho.other (ho.off h3) v3, ho.off h3, hP.le⟩, ?_⟩
  exact (hb.grown hg hB (fun k hk => (hP.own.lt k hk).1)).setCell (p := ⟨g, 0, none⟩) hP.le v3
theorem four_at {w w' : World} {g : Nat} {x0 x1 x2 x3 : Value} {T : TypeId} (h : w.heap[g]? = some (.cells #[x0, x1, x2, x3] T (0, 0))) (hb : Below w.heap.size w w') : w'.cell? ⟨g, 0, none⟩ = some x0 ∧ w'.cell? ⟨g, 1, none⟩ = some x1 ∧ w'.cell? ⟨g, 2, none⟩ = some x2 ∧ w'.cell? ⟨g, 3, none⟩ = some x3 := by
  have h1 := (hb.block g (Array.getElem?_eq_some_iff.1 h).1).trans h
  refine ⟨?_, ?_, ?_, ?_⟩ <;> (rw [cell_of_row _ _ _ _ _ _ h1]; rfl)

set_option maxRecDepth 100000 in
set_option maxHeartbeats 4000000 in
theorem new_any (l : List ChM) (a : Option Addr) (nl c : Nat) (w : World) (hC : Chs w a l) (hnl : l.length = nl) (hm : nl ≤ maxLen) :
    Calls Tryd.prog 7 #[.slice a nl c] w fun e w' => ((¬ OkAll l ∧ e = .returned (.tuple #[.pointer none, .int .i64 1])) ∨ (OkAll l ∧ ∃ v, e = .returned (.tuple #[.pointer (some ⟨w.heap.size, 0, none⟩), .int .i64 0]) ∧ PSh w' w.heap.size w.heap.size v (l.map shOf))) ∧ Below w.heap.size w w' := by
  have HC := hid hC
  have HNL := hid hnl
  have hm' : nl ≤ 9223372036854775807 := by unfold maxLen at hm; omega
  have hP0 : PSh (w.alloc (.cells #[.slice none 0 0] 75)) w.heap.size w.heap.size (.slice none 0 0) ((l.take 0).map shOf) := ⟨heap_alloc_new w _, OwnSh.nil _ _, (by intro e; cases e), Nat.le_refl _⟩
  have hb0 : Below w.heap.size w (w.alloc (.cells #[.slice none 0 0] 75)) := (Below.refl _ w).alloc (Nat.le_refl _) _
  clear hC hnl hm
  go_enter Tryd.func7, Tryd.ntmps7
  go_wp2_with fail
  go_loopw [11] (fun i wr => ∃ (k : Nat) (v : Value), k ≤ nl ∧ i = .int .i64 k ∧ PSh wr w.heap.size w.heap.size v ((l.take k).map shOf) ∧ Hid (okTo l k) ∧ Below w.heap.size w wr) (fun i _ => nl - (intOf i).toNat)
  case atStart => exact ⟨0, _, by omega, rfl, hP0, fun j hj => absurd hj (Nat.not_lt_zero _), hb0⟩
  case round =>
    clear hP0 hb0
    obtain ⟨k, v, hk, rfl, hP, HK, hw⟩ := hrel
    by_cases hlt : k < nl
    · have hkl : k < l.length := by rw [HNL.out]; exact hlt
      obtain ⟨b, o, rfl, q0, q1, q2, q3⟩ := HC.out.at hkl
      have h32 := ok_few HK.out (by omega)
      have hlen : ((l.take k).map shOf).length = k := by simp; omega
      have HTK := hid (take_shOf hkl)
      have HKB : Hid ((l.getD k .zero).ok = false → ¬ OkAll l) := fun h hA => by
        have := (hA k hkl).1
        rw [h] at this; cases this
      have HKF : Hid (findI ((l.take k).map shOf) (l.getD k .zero).id ≠ -1 → ¬ OkAll l) := fun h hA => h (hA k hkl).2
      have HKN : Hid ((l.getD k .zero).ok = true → findI ((l.take k).map shOf) (l.getD k .zero).id = -1 → okTo l (k + 1)) := fun h1 h2 j hj => by
        by_cases e : j = k
        · rw [e]; exact ⟨h1, h2⟩
        · exact HK.out j (by omega)
      obtain ⟨C, eC⟩ : ∃ C, C = l.getD k .zero := ⟨_, rfl⟩
      rw [← eC] at q0 q1 q2 q3 HTK HKB HKF HKN
      obtain ⟨pre, ep⟩ : ∃ pre, pre = (l.take k).map shOf := ⟨_, rfl⟩
      rw [← ep] at hP hlen HTK HKF HKN
      have q0 := cellB hw q0
      have q1 := cellB hw q1
      have q2 := cellB hw q2
      have q3 := cellB hw q3
      have hcc := cchan_any C
      have hA := heap_alloc_new wr (.cells #[.int .i64 C.id, .int .i64 C.prio, .int .i64 C.rate, .int .i64 C.depth] 38)
      have hbA : Below wr.heap.size wr (wr.alloc (.cells #[.int .i64 C.id, .int .i64 C.prio, .int .i64 C.rate, .int .i64 C.depth] 38)) := (Below.refl _ wr).alloc (Nat.le_refl _) _
      have HA := hid hA
      have HBA := hid hbA
      have HP := hid hP
      clear eC ep hkl hA hbA hP
      cases hok : C.ok with
      | false =>
        have HX := hid (HKB.out hok)
        rw [show C.err = 1 from if_neg (by rw [hok]; decide)] at hcc
        clear hok
        go_wp2_with (go_at_call 31; refine (hcc _).mono ?_; rintro e w1 ⟨rfl, hb1⟩)
        go_ret2
        exact ⟨.inl ⟨HX.out, rfl⟩, hw.trans ((HBA.out.trans (hb1.mono HBA.out.size)).mono hw.size)⟩
      | true =>
        rw [show C.err = 0 from if_pos hok] at hcc
        have hfi := fun (wz : World) (hz : PSh wz w.heap.size w.heap.size v pre) => find_any pre C.id w.heap.size w.heap.size v wz hz (by omega)
        rcases findI_ge pre C.id with hf | hf
        · have HO2 := hid (HKN.out hok hf)
          rw [hf] at hfi
          clear hok hf
          go_upto_region 7 with (first
            | (go_at_call 31; refine (hcc _).mono ?_; rintro e w1 ⟨rfl, hb1⟩; have hP1 := (HP.out.below HBA.out).below hb1; have hf1 := four_at HA.out hb1; obtain ⟨f0, f1, f2, f3⟩ := hf1; have hbw1 := HBA.out.trans (hb1.mono HBA.out.size))
            | (go_at_call 32; refine (hfi _ hP1).mono ?_; rintro e w2 ⟨rfl, hb2⟩; have hP2 := hP1.below hb2; have hbw2 := hw.trans ((hbw1.trans (hb2.mono hbw1.size)).mono hw.size); have e0 := cellB hb2 f0; have e1 := cellB hb2 f1; have e2 := cellB hb2 f2; have e3 := cellB hb2 f3))
          have p0 := hP2.cell
          obtain ⟨row, er⟩ : ∃ row : Obj, row = .cells #[.int .i64 C.id, .int .i64 C.prio, .int .i64 C.rate, .int .i64 C.depth, .int .i64 0] 79 := ⟨_, rfl⟩
          have g0 := cellA e0 row
          have g1 := cellA e1 row
          have g2 := cellA e2 row
          have g3 := cellA e3 row
          have gp := cellA p0 row
          have hrow := heap_alloc_new w2 row
          have hbr : Below w2.heap.size w2 (w2.alloc row) := (Below.refl _ w2).alloc (Nat.le_refl _) row
          have hP3 := hP2.below hbr
          rw [er] at g0 g1 g2 g3 gp hrow hP3 hbr
          have HR : Hid (∀ (j : Nat) u, (⟨C, 0⟩ : ShM).cells[j]? = some u → (w2.alloc (.cells #[.int .i64 C.id, .int .i64 C.prio, .int .i64 C.rate, .int .i64 C.depth, .int .i64 0] 79)).drew.cell? ⟨w2.heap.size, j, none⟩ = some u) := fun j u hu => by
            rw [World.cell?_drew, cell_of_row _ _ _ _ _ _ hrow]
            simpa [ShM.cells] using hu
          have HP3 := hid hP3
          have HBW : Hid (Below w.heap.size w (w2.alloc (.cells #[.int .i64 C.id, .int .i64 C.prio, .int .i64 C.rate, .int .i64 C.depth, .int .i64 0] 79)).drew) := (hbw2.trans (hbr.mono hbw2.size)).drew
          have HN : Hid ((pre ++ [(⟨C, 0⟩ : ShM)]).length = k + 1) := by show _ = _; rw [List.length_append, hlen]; rfl
          have HL : Hid (pre.length < 1000) := by show _ < _; omega
          clear er hrow hbr hP3
          go_region_law (refine step_pushSh w.heap.size w2.heap.size ⟨C, 0⟩ (show OwnSh (w2.alloc _).drew w.heap.size v pre from HP3.out.own) rfl (.tmp 29) (.tmp 32) rfl rfl rfl HR.out HL.out HBW.out.size ?_; intro v3 w3 ho3 hg3; obtain ⟨a3, c3, ev3, -, -⟩ := ho3.shape; rw [HN.out] at ev3; subst ev3; obtain ⟨k0, kf, kP, kB⟩ := push_after (show PSh (w2.alloc _).drew _ _ _ _ from ⟨HP3.out.box, HP3.out.own, HP3.out.ne, HP3.out.le⟩) HBW.out HBW.out.size ho3 hg3)
          all_goals
            go_wp2_with fail
            go_roundw
            case rel => exact ⟨k + 1, _, by omega, by go_num, by rw [HTK.out]; exact kP, HO2, kB⟩
            case measure => simp [intOf]; omega
        · have HX := hid (HKF.out (by omega))
          have hlt2 := findI_lt pre C.id
          obtain ⟨F, eF⟩ : ∃ F : Nat, findI pre C.id = (F : Int) := ⟨(findI pre C.id).toNat, by omega⟩
          rw [eF] at hfi hlt2
          clear hok hf eF
          go_wp2_with (first
            | (go_at_call 31; refine (hcc _).mono ?_; rintro e w1 ⟨rfl, hb1⟩; have hP1 := (HP.out.below HBA.out).below hb1; have hf1 := four_at HA.out hb1; obtain ⟨f0, f1, f2, f3⟩ := hf1; have hbw1 := HBA.out.trans (hb1.mono HBA.out.size))
            | (go_at_call 32; refine (hfi _ hP1).mono ?_; rintro e w2 ⟨rfl, hb2⟩; have hbw2 := hw.trans ((hbw1.trans (hb2.mono hbw1.size)).mono hw.size)))
          go_ret2
          exact ⟨.inl ⟨HX.out, rfl⟩, hbw2⟩
    · have e : k = nl := by omega
      subst e
      have htk : l.take k = l := List.take_of_length_le (by rw [HNL.out]; exact Nat.le_refl _)
      rw [htk] at hP
      have HX : Hid (OkAll l) := by show okTo l l.length; rw [HNL.out]; exact HK.out
      go_wp2_with fail
      go_ret2
      exact ⟨.inr ⟨HX.out, v, rfl, hP⟩, hw⟩
end Go.Proofs.YtmdfjhnibhmdkafDoor
