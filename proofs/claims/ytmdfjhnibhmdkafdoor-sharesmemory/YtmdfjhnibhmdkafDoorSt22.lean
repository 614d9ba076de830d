import Derived.Test.YtmdfjhnibhmdkafDoorSt21
namespace Go.Proofs.YtmdfjhnibhmdkafDoor
open Go.ChangeShapes Go.WideShapes Go.ChangeAt Go.RowKit
theorem OwnSh.off {w : World} {B g : Nat} {v : Value} {l : List ShM} {cs : Array Value} {fr : Nat × Nat} (h : OwnSh w B v l) (hg : w.heap[g]? = some (.cells cs 75 fr)) : v.ownBlock ≠ some g := by
  intro e
  rcases h.2 with ⟨rfl, _⟩ | ⟨gb, cap, cur, rfl, _, h3, _⟩
  · cases e
  · have e' : gb = g := by simpa [Value.ownBlock] using e
    rw [e', hg] at h3
    simp at h3
theorem OwnSh.other {w : World} {B : Nat} {v : Value} {l : List ShM} (h : OwnSh w B v l) {p : Addr} (hne : v.ownBlock ≠ some p.block) (x : Value) : OwnSh (w.setCell p x) B v l := by
  refine ⟨h.1, ?_⟩
  rcases h.2 with h' | ⟨g, cap, cur, h1, h2, h3, h4⟩
  · exact .inl h'
  · have hgp : g ≠ p.block := fun e => hne (by rw [h1, ← e]; rfl)
    exact .inr ⟨g, cap, cur, h1, h2, (heap_setCell_other w p g x hgp).trans h3, h4⟩
/-- 'append(list, t)' of shares as a step of a region that draws its order. -/
theorem step_pushSh {W : World} {ops : Array Oper} {o : Oper} {a : Act} {K : Act → World → Prop} {Q : Exit → Act → World → Prop} {E : Prop} {v : Value} {l : List ShM} (B : Nat) (g : Nat) (t : ShM) (hown : OwnSh W B v l) (hgd : o.guard = none) (s x : Operand)
    (ho : o.op = .call { callee := .builtin .append, args := #[s, x], argTypes := #[73, 73] }) (hs : a.eval s = v) (hx : a.eval x = .slice (some ⟨g, 0, none⟩) 1 1) (hc : ∀ (k : Nat) u, t.cells[k]? = some u → W.cell? ⟨g, k, none⟩ = some u) (hlen : l.length < 1000) (hB : B ≤ W.heap.size)
    (h : ∀ v' w', OwnSh w' B v' (l ++ [t]) → W.grownBy w' v.ownBlock → K (a.put o.dst v') w') : if Region.wanted o (yielded ops a.tmps) = true then Oper.wp Tryd.prog o a W K Q else E := by
  have hw : Region.wanted o (yielded ops a.tmps) = true := by simp [Region.wanted, hgd]
  rw [if_pos hw]
  obtain ⟨i0, hi, hz0, hz1, hz2⟩ := info_parts Tryd.infoSh
  refine wp_append_own W s x 73 ho B 79 i0 (.agg #[.int .i64 0, .int .i64 0, .int .i64 0, .int .i64 0, .int .i64 0]) 5 40 Tryd.underlying73 hi hz0 hz1 hz2 rfl (by decide) v _ _ hs hown ⟨g, 0, none⟩ 1 1 t.cells hx rfl ?_ ?_ ?_ ?_ hB ?_
  · intro j u hj
    rw [Addr.add_lit, Nat.zero_add]
    exact hc j u hj
  · intro u hu; simp [ShM.cells] at hu; rcases hu with rfl | rfl | rfl | rfl | rfl <;> rfl
  · unfold maxLen; omega
  · omega
  · intro v' w' h1 h2 _
    refine h v' w' ?_ h2
    unfold OwnSh
    rw [List.length_append, cellsS_snoc]
    exact h1
/-- Behind an append to the list: what is stored at the pointer then. -/
theorem push_after {w w2 w3 : World} {B g : Nat} {v v3 : Value} {l m : List ShM} (hP : PSh w2 B g v l) (hb : Below B w w2) (hB : B ≤ w2.heap.size) (ho : OwnSh w3 B v3 m) (hg : w2.grownBy w3 v.ownBlock) : w3.cell? ⟨g, 0, none⟩ = some v ∧ w3.frozen? ⟨g, 0, none⟩ = false ∧ PSh (w3.setCell ⟨g, 0, none⟩ v3) B g v3 m ∧ Below B w (w3.setCell ⟨g, 0, none⟩ v3) := by
  have h3 : w3.heap[g]? = some (.cells #[v] 75 (0, 0)) := (hg.block g hP.lt (fun e => hP.ne e.symm)).trans hP.box
  have hs := heap_setCell_same w3 g 0 _ _ v3 h3
  refine ⟨by rw [cell_of_row _ _ _ _ _ _ h3]; rfl, frozen_of_row _ _ _ _ _ h3, ⟨hs, ho.other (ho.off h3) v3, ho.off h3, hP.le⟩, ?_⟩
  exact (hb.grown hg hB (fun k hk => (hP.own.lt k hk).1)).setCell (p := ⟨g, 0, none⟩) hP.le v3
theorem four_at {w w' : World} {g : Nat} {x0 x1 x2 x3 : Value} {T : TypeId} (h : w.heap[g]? = some (.cells #[x0, x1, x2, x3] T (0, 0))) (hb : Below w.heap.size w w') : w'.cell? ⟨g, 0, none⟩ = some x0 ∧ w'.cell? ⟨g, 1, none⟩ = some x1 ∧ w'.cell? ⟨g, 2, none⟩ = some x2 ∧ w'.cell? ⟨g, 3, none⟩ = some x3 := by
  have h1 := (hb.block g (Array.getElem?_eq_some_iff.1 h).1).trans h
  refine ⟨?_, ?_, ?_, ?_⟩ <;> (rw [cell_of_row _ _ _ _ _ _ h1]; rfl)
set_option maxRecDepth 100000 in
set_option maxHeartbeats 4000000 in
theorem new_any (l : List ChM) (a : Option Addr) (nl c : Nat) (w : World) (hC : Chs w a l) (hnl : l.length = nl) (hm : nl ≤ maxLen) :
    Calls Tryd.prog 7 #[.slice a nl c] w fun e w' => ((¬ OkAll l ∧ e = .returned (.tuple #[.pointer none, .int .i64 1])) ∨ (OkAll l ∧ ∃ v, e = .returned (.tuple #[.pointer (some ⟨w.heap.size, 0, none⟩), .int .i64 0]) ∧ PSh w' w.heap.size w.heap.size v (l.map shOf))) ∧ Below w.heap.size w w' := by
  have HC := hid hC
  have HNL := hid hnl
  have hm' : nl ≤ 9223372036854775807 := by unfold maxLen at hm; omega
  have hP0 : PSh (w.alloc (.cells #[.slice none 0 0] 75)) w.heap.size w.heap.size (.slice none 0 0) ((l.take 0).map shOf) := ⟨heap_alloc_new w _, OwnSh.nil _ _, (by intro e; cases e), Nat.le_refl _⟩
  have hb0 : Below w.heap.size w (w.alloc (.cells #[.slice none 0 0] 75)) := (Below.refl _ w).alloc (Nat.le_refl _) _
  clear hC hnl hm
  go_enter Tryd.func7, Tryd.ntmps7
  go_wp2_with fail
  go_loopw [11] (fun i wr => ∃ (k : Nat) (v : Value), k ≤ nl ∧ i = .int .i64 k ∧ PSh wr w.heap.size w.heap.size v ((l.take k).map shOf) ∧ Hid (okTo l k) ∧ Below w.heap.size w wr) (fun i _ => nl - (intOf i).toNat)
  case atStart => exact ⟨0, _, by omega, rfl, hP0, fun j hj => absurd hj (Nat.not_lt_zero _), hb0⟩
  case round =>
    clear hP0 hb0
    obtain ⟨k, v, hk, rfl, hP, HK, hw⟩ := hrel
    by_cases hlt : k < nl
    · have hkl : k < l.length := by rw [HNL.out]; exact hlt
      obtain ⟨b, o, rfl, q0, q1, q2, q3⟩ := HC.out.at hkl
      have h32 := ok_few HK.out (by omega)
      have hlen : ((l.take k).map shOf).length = k := by simp; omega
      have HTK := hid (take_shOf hkl)
      have HKB : Hid ((l.getD k .zero).ok = false → ¬ OkAll l) := fun h hA => by
        have := (hA k hkl).1
        rw [h] at this; cases this
      have HKF : Hid (findI ((l.take k).map shOf) (l.getD k .zero).id ≠ -1 → ¬ OkAll l) := fun h hA => h (hA k hkl).2
      have HKN : Hid ((l.getD k .zero).ok = true → findI ((l.take k).map shOf) (l.getD k .zero).id = -1 → okTo l (k + 1)) := fun h1 h2 j hj => by
        by_cases e : j = k
        · rw [e]; exact ⟨h1, h2⟩
        · exact HK.out j (by omega)
      obtain ⟨C, eC⟩ : ∃ C, C = l.getD k .zero := ⟨_, rfl⟩
      rw [← eC] at q0 q1 q2 q3 HTK HKB HKF HKN
      obtain ⟨pre, ep⟩ : ∃ pre, pre = (l.take k).map shOf := ⟨_, rfl⟩
      rw [← ep] at hP hlen HTK HKF HKN
      have q0 := cellB hw q0
      have q1 := cellB hw q1
      have q2 := cellB hw q2
      have q3 := cellB hw q3
      have hcc := cchan_any C
      have hA := heap_alloc_new wr (.cells #[.int .i64 C.id, .int .i64 C.prio, .int .i64 C.rate, .int .i64 C.depth] 38)
      have hbA : Below wr.heap.size wr (wr.alloc (.cells #[.int .i64 C.id, .int .i64 C.prio, .int .i64 C.rate, .int .i64 C.depth] 38)) := (Below.refl _ wr).alloc (Nat.le_refl _) _
      have HA := hid hA
      have HBA := hid hbA
      have HP := hid hP
      clear eC ep hkl hA hbA hP
      cases hok : C.ok with
      | false =>
        have HX := hid (HKB.out hok)
        rw [show C.err = 1 from if_neg (by rw [hok]; decide)] at hcc
        clear hok
        go_wp2_with (go_at_call 31; refine (hcc _).mono ?_; rintro e w1 ⟨rfl, hb1⟩)
        go_ret2
        exact ⟨.inl ⟨HX.out, rfl⟩, hw.trans ((HBA.out.trans (hb1.mono HBA.out.size)).mono hw.size)⟩
      | true =>
        rw [show C.err = 0 from if_pos hok] at hcc
        have hfi := fun (wz : World) (hz : PSh wz w.heap.size w.heap.size v pre) => find_any pre C.id w.heap.size w.heap.size v wz hz (by omega)
        rcases findI_ge pre C.id with hf | hf
        · have HO2 := hid (HKN.out hok hf)
          rw [hf] at hfi
          clear hok hf
          go_upto_region 7 with (first
            | (go_at_call 31; refine (hcc _).mono ?_; rintro e w1 ⟨rfl, hb1⟩; have hP1 := (HP.out.below HBA.out).below hb1; have hf1 := four_at HA.out hb1; obtain ⟨f0, f1, f2, f3⟩ := hf1; have hbw1 := HBA.out.trans (hb1.mono HBA.out.size))
            | (go_at_call 32; refine (hfi _ hP1).mono ?_; rintro e w2 ⟨rfl, hb2⟩; have hP2 := hP1.below hb2; have hbw2 := hw.trans ((hbw1.trans (hb2.mono hbw1.size)).mono hw.size); have e0 := cellB hb2 f0; have e1 := cellB hb2 f1; have e2 := cellB hb2 f2; have e3 := cellB hb2 f3))
          have p0 := hP2.cell
          obtain ⟨row, er⟩ : ∃ row : Obj, row = .cells #[.int .i64 C.id, .int .i64 C.prio, .int .i64 C.rate, .int .i64 C.depth, .int .i64 0] 79 := ⟨_, rfl⟩
          have g0 := cellA e0 row
          have g1 := cellA e1 row
          have g2 := cellA e2 row
          have g3 := cellA e3 row
          have gp := cellA p0 row
          have hrow := heap_alloc_new w2 row
          have hbr : Below w2.heap.size w2 (w2.alloc row) := (Below.refl _ w2).alloc (Nat.le_refl _) row
          have hP3 := hP2.below hbr
          rw [er] at g0 g1 g2 g3 gp hrow hP3 hbr
          have HR : Hid (∀ (j : Nat) u, (⟨C, 0⟩ : ShM).cells[j]? = some u → (w2.alloc (.cells #[.int .i64 C.id, .int .i64 C.prio, .int .i64 C.rate, .int .i64 C.depth, .int .i64 0] 79)).drew.cell? ⟨w2.heap.size, j, none⟩ = some u) := fun j u hu => by
            rw [World.cell?_drew, cell_of_row _ _ _ _ _ _ hrow]
            simpa [ShM.cells] using hu
          have HP3 := hid hP3
          have HBW : Hid (Below w.heap.size w (w2.alloc (.cells #[.int .i64 C.id, .int .i64 C.prio, .int .i64 C.rate, .int .i64 C.depth, .int .i64 0] 79)).drew) := (hbw2.trans (hbr.mono hbw2.size)).drew
          have HN : Hid ((pre ++ [(⟨C, 0⟩ : ShM)]).length = k + 1) := by show _ = _; rw [List.length_append, hlen]; rfl
          have HL : Hid (pre.length < 1000) := by show _ < _; omega
          clear er hrow hbr hP3
          go_region_law (refine step_pushSh w.heap.size w2.heap.size ⟨C, 0⟩ (show OwnSh (w2.alloc _).drew w.heap.size v pre from HP3.out.own) rfl (.tmp 29) (.tmp 32) rfl rfl rfl HR.out HL.out HBW.out.size ?_; intro v3 w3 ho3 hg3; obtain ⟨a3, c3, ev3, -, -⟩ := ho3.shape; rw [HN.out] at ev3; subst ev3; obtain ⟨k0, kf, kP, kB⟩ := push_after (show PSh (w2.alloc _).drew _ _ _ _ from ⟨HP3.out.box, HP3.out.own, HP3.out.ne, HP3.out.le⟩) HBW.out HBW.out.size ho3 hg3)
          all_goals
            go_wp2_with fail
            go_roundw
            case rel => exact ⟨k + 1, _, by omega, by go_num, by rw [HTK.out]; exact kP, HO2, kB⟩
            case measure => simp [intOf]; omega
        · have HX := hid (HKF.out (by omega))
          have hlt2 := findI_lt pre C.id
          obtain ⟨F, eF⟩ : ∃ F : Nat, findI pre C.id = (F : Int) := ⟨(findI pre C.id).toNat, by omega⟩
          rw [eF] at hfi hlt2
          clear hok hf eF
          go_wp2_with (first
            | (go_at_call 31; refine (hcc _).mono ?_; rintro e w1 ⟨rfl, hb1⟩; have hP1 := (HP.out.below HBA.out).below hb1; have hf1 := four_at HA.out hb1; obtain ⟨f0, f1, f2, f3⟩ := hf1; have hbw1 := HBA.out.trans (hb1.mono HBA.out.size))
            | (go_at_call 32; refine (hfi _ hP1).mono ?_; rintro e w2 ⟨rfl, hb2⟩; have hbw2 := hw.trans ((hbw1.trans (hb2.mono hbw1.size)).mono hw.size)))
          go_ret2
          exact ⟨.inl ⟨HX.out, rfl⟩, hbw2⟩
    · have e : k = nl := by omega
      subst e
      have htk : l.take k = l := List.take_of_length_le (by rw [HNL.out]; exact Nat.le_refl _)
      rw [htk] at hP
      have HX : Hid (OkAll l) := by show okTo l l.length; rw [HNL.out]; exact HK.out
      go_wp2_with fail
      go_ret2
      exact ⟨.inr ⟨HX.out, v, rfl, hP⟩, hw⟩
end Go.Proofs.YtmdfjhnibhmdkafDoor
namespace Go.Proofs.YtmdfjhnibhmdkafDoor
open Go.ChangeShapes Go.WideShapes Go.ChangeAt Go.RowKit
def ownT (v : Value) : List Nat := match v.ownBlock with | some g => [g] | none => []
theorem ownT_in {v : Value} {k : Nat} : k ∈ ownT v ↔ v.ownBlock = some k := by
  unfold ownT
  cases v.ownBlock with
  | none => simp
  | some g => simp; exact eq_comm
def tickS (t : ShM) : ShM := ⟨t.ch, min (t.lv + t.ch.rate) t.ch.depth⟩
def ShM.fits (t : ShM) : Prop := (-1000000000000000 ≤ t.lv ∧ t.lv ≤ 1000000000000000) ∧ (0 ≤ t.ch.rate ∧ t.ch.rate ≤ 10000) ∧ (0 ≤ t.ch.depth ∧ t.ch.depth ≤ 100000)
def tickTo (l : List ShM) (k : Nat) : List ShM := (l.take k).map tickS ++ l.drop k
theorem tickTo_length (l : List ShM) (k : Nat) : (tickTo l k).length = l.length := by
  unfold tickTo
  rw [List.length_append, List.length_map, List.length_take, List.length_drop]
  omega
theorem tickTo_at {l : List ShM} {k : Nat} (h : k < l.length) : (tickTo l k).getD k .zero = l.getD k .zero := by
  unfold tickTo
  have hl : ((l.take k).map tickS).length = k := by simp; omega
  simp only [List.getD]
  rw [List.getElem?_append_right (by omega), hl, Nat.sub_self, List.getElem?_drop, Nat.add_zero]
theorem tickTo_set {l : List ShM} {k : Nat} (h : k < l.length) : (tickTo l k).set k (tickS (l.getD k .zero)) = tickTo l (k + 1) := by
  unfold tickTo
  have hl : ((l.take k).map tickS).length = k := by simp; omega
  have e : l.getD k .zero = l[k] := by simp [List.getD, h]
  rw [List.set_append_right _ _ (by omega), hl, Nat.sub_self, List.drop_eq_getElem_cons h, List.set_cons_zero, List.take_succ_eq_append_getElem h, List.map_append, e]
  simp
theorem tickTo_all (l : List ShM) : tickTo l l.length = l.map tickS := by
  unfold tickTo
  simp
set_option maxRecDepth 100000 in
set_option maxHeartbeats 4000000 in
theorem tick_anyK (l : List ShM) (B g : Nat) (v : Value) (w : World) (hP : PSh w B g v l) (hn : l.length ≤ 1000) (hf : ∀ i, i < l.length → (l.getD i .zero).fits) :
    Calls Tryd.prog 8 #[.pointer (some ⟨g, 0, none⟩)] w fun e w' => e = .returned (.tuple #[]) ∧ PSh w' B g v (l.map tickS) ∧ Below B w w' ∧ Kept (ownT v) w w' := by
  have HF := hid hf
  obtain ⟨a, c, rfl, -, -⟩ := hP.own.shape
  have p0 := hP.cell
  obtain ⟨n, en⟩ : ∃ n, n = l.length := ⟨_, rfl⟩
  rw [← en] at hP p0 hn ⊢
  have HN := hid en
  have hP0 : PSh w B g (.slice a n c) (tickTo l 0) := hP
  clear hf en hP
  go_enter Tryd.func8, Tryd.ntmps8
  go_wp2_with fail
  go_loopw [9] (fun i wr => ∃ k : Nat, k ≤ n ∧ i = .int .i64 k ∧ PSh wr B g (.slice a n c) (tickTo l k) ∧ Below B w wr ∧ Kept (ownT (.slice a n c)) w wr) (fun i _ => n - (intOf i).toNat)
  case atStart => exact ⟨0, by omega, rfl, hP0, Below.refl _ w, Kept.refl _ w⟩
  case round =>
    clear hP0 p0
    obtain ⟨k, hk, rfl, hP, hw, hkw⟩ := hrel
    have p0 := hP.cell
    by_cases hlt : k < n
    · have hkl : k < l.length := by rw [← HN.out]; exact hlt
      have hkt : k < (tickTo l k).length := by rw [tickTo_length]; exact hkl
      obtain ⟨gb, c', e, hBg, -, hC⟩ := hP.own.at (by omega)
      simp only [Value.slice.injEq] at e
      obtain ⟨rfl, -, rfl⟩ := e
      obtain ⟨⟨-, -, c2, c3, c4⟩, z4⟩ := hC k hkt
      have hS := fun x => hP.setLv hkt x
      have hset := tickTo_set hkl
      have hfk := HF.out k hkl
      rw [tickTo_at hkl] at c2 c3 c4 hS
      unfold tickS at hset
      obtain ⟨t, et⟩ : ∃ t, t = l.getD k .zero := ⟨_, rfl⟩
      rw [← et] at c2 c3 c4 hS hset hfk
      have hS2 := hS (min (t.lv + t.ch.rate) t.ch.depth)
      rw [hset] at hS2
      have hwS : Below B w (wr.setCell ⟨gb, k * 5 + 4, none⟩ (.int .i64 (min (t.lv + t.ch.rate) t.ch.depth))) := hw.setCell (p := ⟨gb, k * 5 + 4, none⟩) hBg _
      have hkS : Kept (ownT (.slice (some ⟨gb, 0, none⟩) n c)) w (wr.setCell ⟨gb, k * 5 + 4, none⟩ (.int .i64 (min (t.lv + t.ch.rate) t.ch.depth))) := hkw.setCell (p := ⟨gb, k * 5 + 4, none⟩) (ownT_in.2 rfl) _
      have HKS := hid hkS
      obtain ⟨⟨f1, f2⟩, ⟨f3, f4⟩, ⟨f5, f6⟩⟩ := hfk
      have HS := hid hS2
      clear hC hS hset et hkl hkt hS2 hP hkS hkw
      go_upto_region 4 with fail
      go_region
      go_wp2_with fail
      go_roundw
      case rel => exact ⟨k + 1, by omega, by go_num, ⟨HS.out.box, HS.out.own, HS.out.ne, HS.out.le⟩, hwS.drew, HKS.out.drew⟩
      case measure => simp [intOf]; omega
    · have e : k = n := by omega
      subst e
      have hall : tickTo l k = l.map tickS := by rw [HN.out, tickTo_all]
      rw [hall] at hP
      go_wp2_with fail
      go_end0
      exact ⟨rfl, hP, hw, hkw⟩
def levelV (l : List ShM) (id : Int) : Value := if findI l id = -1 then .tuple #[.int .i64 0, .int .i64 6] else .tuple #[.int .i64 (l.getD (findI l id).toNat .zero).lv, .int .i64 0]
end Go.Proofs.YtmdfjhnibhmdkafDoor
namespace Go.Proofs.YtmdfjhnibhmdkafDoor
open Go.ChangeShapes Go.WideShapes Go.ChangeAt Go.RowKit
def grantOk (n : Nat) (bl : List Int) (bytes : Int) : Prop := bl.length = n ∧ withM bytes 1000000 = true ∧ ∀ i, i < bl.length → withM (bl.getD i 0) 1000000 = true
set_option maxRecDepth 100000 in
set_option maxHeartbeats 2000000 in
theorem cgrant_any (l : List ShM) (bl : List Int) (bytes : Int) (B g nb cb : Nat) (a : Option Addr) (v : Value) (w : World) (hP : PSh w B g v l) (hn : l.length ≤ 1000) (hR : Rd .i64 w a bl) (hnb : bl.length = nb) (hm : nb ≤ maxLen) :
    Calls Tryd.prog 33 #[.pointer (some ⟨g, 0, none⟩), .slice a nb cb, .int .i64 bytes] w fun e w' => ((grantOk l.length bl bytes ∧ e = .returned (.int .i64 0)) ∨ (¬ grantOk l.length bl bytes ∧ e = .returned (.int .i64 1))) ∧ w' = w := by
  obtain ⟨sa, c, rfl, -, -⟩ := hP.own.shape
  have p0 := hP.cell
  have hwi : ∀ (n m : Int) (wz : World), Calls Tryd.prog 49 #[.int .i64 n, .int .i64 m] wz fun e w' => e = .returned (.bool (withM n m)) ∧ wz = w' := fun n m wz => (within_any n m wz).mono fun e w' h => ⟨h.1, h.2.symm⟩
  obtain ⟨n, en⟩ : ∃ n, n = l.length := ⟨_, rfl⟩
  rw [← en] at p0 hn ⊢
  have HR := hid hR
  have HNB := hid hnb
  have hm' : nb ≤ 9223372036854775807 := by unfold maxLen at hm; omega
  have hn' : n ≤ 9223372036854775807 := by omega
  clear hP en hR hm
  by_cases hl : nb = n
  · subst hl
    have xl : ((nb : Int) != (nb : Int)) = false := by simp
    cases hby : withM bytes 1000000 with
    | false =>
      have HX : Hid (¬ grantOk nb bl bytes) := fun h => by have := h.2.1; rw [hby] at this; cases this
      clear hnb
      go_enter Tryd.func33, Tryd.ntmps33
      go_wp2_with (go_at_call 49; refine (hwi _ _ _).mono ?_; rintro e w1 ⟨rfl, rfl⟩)
      go_ret
      exact ⟨.inr ⟨HX.out, rfl⟩, rfl⟩
    | true =>
      have HBY := hid hby
      clear hnb
      go_enter Tryd.func33, Tryd.ntmps33
      go_wp2_with (go_at_call 49; refine (hwi _ _ _).mono ?_; rintro e w1 ⟨rfl, rfl⟩)
      go_loopw [24] (fun i wr => ∃ k : Nat, k ≤ nb ∧ i = .int .i64 k ∧ Hid (∀ j, j < k → withM (bl.getD j 0) 1000000 = true) ∧ w = wr) (fun i _ => nb - (intOf i).toNat)
      case atStart => exact ⟨0, by omega, rfl, fun j hj => absurd hj (Nat.not_lt_zero _), rfl⟩
      case round =>
        obtain ⟨k, hk, rfl, HK, rfl⟩ := hrel
        by_cases hlt : k < nb
        · obtain ⟨b, o, rfl, hC⟩ := HR.out.at (i := k) (by rw [HNB.out]; exact hlt)
          have q0 := hC k (by rw [HNB.out]; exact hlt)
          have HXF : Hid (withM (bl.getD k 0) 1000000 = false → ¬ grantOk nb bl bytes) := fun h hG => by
            have := hG.2.2 k (by rw [HNB.out]; exact hlt)
            rw [h] at this; cases this
          obtain ⟨z, ez⟩ : ∃ z, z = bl.getD k 0 := ⟨_, rfl⟩
          rw [← ez] at q0 HXF
          have HZ := hid ez
          clear hC ez
          cases hz : withM z 1000000 with
          | false =>
            have HX := hid (HXF.out hz)
            go_wp2_with (go_at_call 49; refine (hwi _ _ _).mono ?_; rintro e w1 ⟨rfl, rfl⟩)
            go_ret
            exact ⟨.inr ⟨HX.out, rfl⟩, rfl⟩
          | true =>
            have HZT := hid hz
            go_wp2_with (go_at_call 49; refine (hwi _ _ _).mono ?_; rintro e w1 ⟨rfl, rfl⟩)
            go_roundw
            case rel => exact ⟨k + 1, by omega, by go_num, (show Hid _ from fun j hj => by
              by_cases e : j = k
              · rw [e, ← HZ.out]; exact HZT.out
              · exact HK.out j (by omega)), by first | rfl | trivial⟩
            case measure => simp [intOf]; omega
        · have e : k = nb := by omega
          subst e
          have HX : Hid (grantOk k bl bytes) := ⟨HNB.out, HBY.out, fun i hi => HK.out i (by rw [← HNB.out]; exact hi)⟩
          go_wp2_with fail
          go_ret
          exact ⟨.inl ⟨HX.out, rfl⟩, rfl⟩
  · have xl : ((nb : Int) != (n : Int)) = true := by simp; omega
    have HX : Hid (¬ grantOk n bl bytes) := fun h => hl (by rw [← h.1, HNB.out])
    clear hl hnb
    go_enter Tryd.func33, Tryd.ntmps33
    go_wp2_with (go_at_call 49; refine (hwi _ _ _).mono ?_; rintro e w1 ⟨rfl, rfl⟩)
    go_ret
    exact ⟨.inr ⟨HX.out, rfl⟩, rfl⟩
set_option maxHeartbeats 1000000 in
theorem giver_any (left : Int) (w : World) : Calls Tryd.prog 34 #[.int .i64 left] w fun e w' => e = .returned (.func (.func 52) #[] #[.pointer (some ⟨w.heap.size, 0, none⟩)]) ∧ w' = w.alloc (.cells #[.int .i64 left] 3) := by
  go_enter Tryd.func34, Tryd.ntmps34
  go_wp2
  go_ret
  exact ⟨rfl, rfl⟩
set_option maxHeartbeats 1000000 in
theorem give_any (asked left : Int) (bx : Nat) (w : World) (h0 : w.cell? ⟨bx, 0, none⟩ = some (.int .i64 left)) (hz : w.frozen? ⟨bx, 0, none⟩ = false) (ha : 0 ≤ asked) (ha2 : asked ≤ 1000000) (hl : 0 ≤ left) (hl2 : left ≤ 1000000) :
    Calls Tryd.prog 52 #[.int .i64 asked, .pointer (some ⟨bx, 0, none⟩)] w fun e w' => e = .returned (.int .i64 (min asked left)) ∧ w' = w.setCell ⟨bx, 0, none⟩ (.int .i64 (left - min asked left)) := by
  have hm1 : 0 ≤ min asked left := by omega
  have hm2 : min asked left ≤ 1000000 := by omega
  go_enter Tryd.func52, Tryd.ntmps52
  go_wp2
  go_ret
  exact ⟨rfl, rfl⟩
end Go.Proofs.YtmdfjhnibhmdkafDoor
