import Derived.Test.YtbjgfoiikhbonafK46
set_option linter.unusedVariables false
set_option linter.unusedSimpArgs false
namespace Go.Proofs.Ytbjgfoiikhbonaf
open Go.ChangeShapes Go.WideShapes Go.ChangeAt Go.RowKit
theorem Try.infoTn : (Try.prog.info? 126).map (fun i => (i.zero, i.size, i.bytes)) = some (some (.agg #[.int .i64 0, .int .i64 0, .int .i64 0, .bool false, .string { data := #[] }]), 5, 48) := by kernel_rfl
theorem row_base {w : World} {B C n k : Nat} {T : TypeId} {v : Value} {xs : List Value} (h : w.ownsRow B T k v n xs) (hc : C ≤ B) : w.ownsRow C T k v n xs := by
  refine ⟨h.1, ?_⟩
  rcases h.2 with q | ⟨g9, cap, cur, q1, q2, q3⟩
  · exact .inl q
  · exact .inr ⟨g9, cap, cur, q1, Nat.le_trans hc q2, q3⟩
def RTkPost (w : World) (B g : Nat) (vl : Value) (win fst : Nat) (ts : List TakenM) (t : TakenM) : Ending → World → Prop := fun e w' => ∃ k a c vl', e = .returned (.tuple #[.slice a k c, .int .i64 0]) ∧ (∀ j, j < k → (inOf win fst (ts ++ [t])).whole (fst + j) = true) ∧ (inOf win fst (ts ++ [t])).whole (fst + k) = false ∧ RIn w' 0 g vl' win (fst + k) (ts ++ [t]) ∧ w'.ownsRow w.heap.size 9 1 (.slice a k c) k ((toldR win fst (ts ++ [t]) k).map Value.string) ∧ Kept (g :: vl.ownBlock.toList) w w' ∧ (∀ x, vl'.ownBlock = some x → vl.ownBlock = some x ∨ w.heap.size ≤ x)
set_option maxRecDepth 100000 in
set_option maxHeartbeats 4000000 in
theorem rtake_good {w : World} {B g : Nat} {vl : Value} {win fst : Nat} {ts : List TakenM} (x : PieceM) (h : RIn w B g vl win fst ts) (hx : x.bad = false) (hf : fst ≤ manyU) (ho : aheadN x.num fst < win) (hl : ts.length ≤ manyU) (hc : ((match lenL (fst + aheadN x.num fst) none ts with
      | none => false
      | some n => (x.last && n != x.b) || decide (n < x.b)) || (x.last && decide (x.b < finL (fst + aheadN x.num fst) 0 ts))) = false) (hl2 : ts.length ≤ manyO) (hh : hiL 0 ts ≤ fst + 32) (hwn : win ≤ 32) :
    Calls Try.prog 19 #[.pointer (some ⟨g, 0, none⟩), x.val] w (RTkPost w B g vl win fst ts ⟨fst + aheadN x.num fst, x⟩) := by
  generalize hPP : RTkPost w B g vl win fst ts ⟨fst + aheadN x.num fst, x⟩ = P
  have HPP := hid hPP
  have HHH := hid h
  have HL2 := hid hl2
  have HHI := hid hh
  have HUB : Hid ((⟨fst + aheadN x.num fst, x⟩ : TakenM).ok) := by
    have hbd : ¬(x.num < 0 ∨ 63 < x.num ∨ x.frm < 0 ∨ 1500 < x.frm ∨ 1500 < x.frm + (x.data.size : Int) ∨ x.data.size = 0) := by
      unfold PieceM.bad at hx
      exact of_decide_eq_false hx
    exact ⟨by show 0 ≤ x.frm; omega, by show x.frm + (x.data.size : Int) ≤ 1500; omega, by show fst + aheadN x.num fst ≤ manyU + 64; omega⟩
  have HF0 := hid hf
  have HWN := hid hwn
  have HHO := hid ho
  clear hPP hl2 hh
  have hbd : ¬(x.num < 0 ∨ 63 < x.num ∨ x.frm < 0 ∨ 1500 < x.frm ∨ 1500 < x.frm + (x.data.size : Int) ∨ x.data.size = 0) := by
    unfold PieceM.bad at hx
    exact of_decide_eq_false hx
  have b1 : 0 ≤ x.num := by omega
  have b2 : x.num ≤ 63 := by omega
  have b3 : 0 ≤ x.frm := by omega
  have b4 : x.frm ≤ 1500 := by omega
  have b5 : x.frm + (x.data.size : Int) ≤ 1500 := by omega
  have z1 : decide (x.num < 0) = false := decide_eq_false (by omega)
  have z2 : decide (63 < x.num) = false := decide_eq_false (by omega)
  have z3 : decide (x.frm < 0) = false := decide_eq_false (by omega)
  have z4 : decide (1500 < x.frm) = false := decide_eq_false (by omega)
  have z5 : decide (1500 < x.frm + (x.data.size : Int)) = false := decide_eq_false (by omega)
  have z6 : x.data.toList.isEmpty = false := emp_falseR (by omega)
  have hah := fun wz => rahead_any x.num fst wz b1 b2 hf
  have hb : Below w.heap.size w (w.alloc (.cells #[.int .i64 x.num, .int .i64 x.frm, .bool x.last, .string x.data] 64)) := (Below.refl _ w).alloc (Nat.le_refl _) _
  obtain ⟨y0, y1, y2, y3⟩ := piece_new w x
  obtain ⟨c0, c1, -⟩ := h.cells
  have k0 := (hb.cell (World.block_lt_of_cell? w _ c0)).trans c0
  have k1 := (hb.cell (World.block_lt_of_cell? w _ c1)).trans c1
  have hal : aheadN x.num fst < 64 := by unfold aheadN; omega
  have hR := (h.below hb).below ((Below.refl _ _).drew)
  have hle := rlength_any (fst + aheadN x.num fst) hR hl (by omega)
  have hxb : (x.b : Int) = x.frm + (x.data.size : Int) := by unfold PieceM.b; omega
  have hfl := finL_le (u := fst + aheadN x.num fst) ts 0 (by omega) h.ok
  unfold manyU at hf
  unfold PieceM.val
  have HB := hid hb
  clear hbd hb hx h c0 c1 hR hl
  have HD64 := hid hal
  generalize aheadN x.num fst = d at *
  have hcast : ((fst + d : Nat) : Int) = (fst : Int) + (d : Int) := by omega
  rw [hcast] at hle
  generalize lenL (fst + d) none ts = N at *
  generalize finL (fst + d) 0 ts = E at *
  generalize x.b = bb at *
  have HXB := hid hxb
  have HC := hid hc
  clear hcast hc
  go_enter Try.func19, Try.ntmps19
  go_wp2_with fail
  generalize (w.alloc (.cells #[.int .i64 x.num, .int .i64 x.frm, .bool x.last, .string x.data] 64)) = wA at *
  obtain ⟨bx, ebx⟩ : ∃ bx, bx = w.heap.size := ⟨_, rfl⟩
  rw [← ebx] at y0 y1 y2 y3
  rw [← ebx]
  have HBX := hid ebx
  clear ebx
  have HKp : Hid (∀ n, (wA.drewN n).cell? ⟨bx, 0, none⟩ = some (.int .i64 x.num) ∧ (wA.drewN n).cell? ⟨g, 1, none⟩ = some (.int .i64 (fst : Int))) := fun n => ⟨y0, k1⟩
  go_region_held3 (fun w' => w'.cell? ⟨bx, 0, none⟩ = some (.int .i64 x.num) ∧ w'.cell? ⟨g, 1, none⟩ = some (.int .i64 (fst : Int))) (first | exact ⟨y0, k1⟩ | exact HKp.out _) (first | (go_at_call 44; refine (hah _).mono ?_; rintro e w2 ⟨rfl, rfl⟩))
  go_upto_region 8 with (go_at_call 45; refine hle.mono ?_; rintro e w3 ⟨rfl, hb3⟩)
  have HB3 := hid (HB.out.drew.trans (hb3.mono HB.out.drew.size))
  have y2d : wA.drew.cell? ⟨bx, 2, none⟩ = some (.bool x.last) := y2
  have y2' := (hb3.cell (World.block_lt_of_cell? _ _ y2d)).trans y2d
  have hxb := HXB.out
  have HP3 := hid (HHH.out.below HB3.out)
  have hbx3 : ∀ (j : Nat) (v : Value), wA.cell? ⟨bx, j, none⟩ = some v → w3.cell? ⟨bx, j, none⟩ = some v := fun j v hv => by
    have hv' : wA.drew.cell? ⟨bx, j, none⟩ = some v := hv
    exact (hb3.cell (World.block_lt_of_cell? _ _ hv')).trans hv'
  have p0 := hbx3 _ _ y0
  have p1 := hbx3 _ _ y1
  have p3 := hbx3 _ _ y3
  clear y0 y1 y2 y3 y2d k0 k1 hah hle hb3 HKp hbx3
  obtain ⟨NI, eNI⟩ : ∃ NI, NI = lenI N := ⟨_, rfl⟩
  rw [← eNI]
  go_cut [102] from 74 (fun v wy => v = .bool false ∧ wy = w3)
  case first =>
    obtain ⟨LB, eLB⟩ : ∃ LB, LB = x.last := ⟨_, rfl⟩
    rw [← eLB] at y2'
    cases hN : N with
    | none =>
      have hc := HC.out
      rw [hN] at hc
      simp only [Bool.false_or, Bool.and_eq_false_imp, decide_eq_false_iff_not] at hc
      have hni : NI < 0 := by rw [eNI, hN]; show (-1 : Int) < 0; omega
      have hni2 : ¬ 0 ≤ NI := by omega
      clear eNI
      cases LB with
      | false =>
        clear hc hN hxb eLB
        go_wp2
        go_meet
        exact ⟨rfl, rfl⟩
      | true =>
        have h5 := hc eLB.symm
        have x5 : ¬ (x.frm + (x.data.size : Int) < (E : Int)) := by omega
        have x6 : decide (x.frm + (x.data.size : Int) < (E : Int)) = false := decide_eq_false x5
        clear hc hN hxb h5 eLB
        go_wp2
        go_meet
        exact ⟨rfl, rfl⟩
    | some n =>
      have hc := HC.out
      rw [hN] at hc
      rw [Bool.or_eq_false_iff, Bool.or_eq_false_iff] at hc
      obtain ⟨⟨hc1, hc2⟩, hc3⟩ := hc
      have hc2 := of_decide_eq_false hc2
      have hni : NI = (n : Int) := by rw [eNI, hN]; rfl
      have x0 : 0 ≤ NI := by omega
      have x1 : ¬ (NI < x.frm + (x.data.size : Int)) := by omega
      clear eNI
      cases LB with
      | false =>
        clear hc1 hc3 hN hxb eLB hni
        go_wp2
        go_meet
        exact ⟨rfl, rfl⟩
      | true =>
        rw [← eLB] at hc1 hc3
        simp only [Bool.true_and, bne_eq_false_iff_eq, decide_eq_false_iff_not] at hc1 hc3
        have x2 : (NI != x.frm + (x.data.size : Int)) = false := by rw [hni, ← hxb, hc1]; simp
        have x5 : ¬ (x.frm + (x.data.size : Int) < (E : Int)) := by omega
        clear hc1 hc3 hN hxb eLB hni
        go_wp2
        go_meet
        exact ⟨rfl, rfl⟩
  case rest =>
  obtain ⟨rfl, ew⟩ := hcut
  obtain rfl := ew
  clear eNI
  obtain ⟨a0, c0', ev, -, -, -⟩ := row_shape HP3.out.own
  have HEV := hid ev
  have hcs := HP3.out.cells
  rw [HEV.out] at hcs
  obtain ⟨-, q1, q2⟩ := hcs
  obtain ⟨n0, hn0⟩ : ∃ n0, n0 = ts.length := ⟨_, rfl⟩
  rw [← hn0] at q2
  have HN0 := hid hn0
  clear ev hn0 hxb HXB
  obtain ⟨t, ht⟩ : ∃ t : TakenM, t = ⟨fst + d, x⟩ := ⟨_, rfl⟩
  have HTT := hid ht
  have hrow := heap_alloc_new wc (.cells #[.int .i64 ((fst : Int) + (d : Int)), .int .i64 x.num, .int .i64 x.frm, .bool x.last, .string x.data] 126)
  have hcl : t.cells = [.int .i64 ((fst : Int) + (d : Int)), .int .i64 x.num, .int .i64 x.frm, .bool x.last, .string x.data] := by
    rw [ht]
    show [Value.int .i64 (((fst + d : Nat)) : Int), _, _, _, _] = _
    rw [show (((fst + d : Nat)) : Int) = (fst : Int) + (d : Int) by omega]
  have HCL := hid hcl
  have HR : Hid (∀ (j : Nat) u, t.cells[j]? = some u → (wc.alloc (.cells #[.int .i64 ((fst : Int) + (d : Int)), .int .i64 x.num, .int .i64 x.frm, .bool x.last, .string x.data] 126)).drew.cell? ⟨wc.heap.size, j, none⟩ = some u) := fun j u hu => by
    rw [World.cell?_drew, cell_of_row _ _ _ _ _ _ hrow]
    rw [HCL.out] at hu
    simpa using hu
  have HON : Hid (∀ u ∈ t.cells, u.oneCell' = true) := by
    intro u hu
    rw [HCL.out] at hu
    simp at hu
    rcases hu with rfl | rfl | rfl | rfl | rfl <;> rfl
  have HTL : Hid (t.cells.length = 1 * 5) := rfl
  have hbo : Below wc.heap.size wc (wc.alloc (.cells #[.int .i64 ((fst : Int) + (d : Int)), .int .i64 x.num, .int .i64 x.frm, .bool x.last, .string x.data] 126)) := (Below.refl _ wc).alloc (Nat.le_refl _) _
  have HRA := hid ((HP3.out.below hbo).below (Below.refl _ _).drew)
  have HOW : Hid ((wc.alloc (.cells #[.int .i64 ((fst : Int) + (d : Int)), .int .i64 x.num, .int .i64 x.frm, .bool x.last, .string x.data] 126)).drew.ownsRow 0 126 5 (.slice a0 n0 c0') n0 (cellsTn ts)) := by
    have h9 := HRA.out.own
    rw [HEV.out, ← HN0.out] at h9
    exact ⟨h9.1, by rcases h9.2 with q | ⟨g9, cap, cur, e1, e2, e3⟩; exact .inl q; exact .inr ⟨g9, cap, cur, e1, Nat.zero_le _, e3⟩⟩
  have r1 : (wc.alloc (.cells #[.int .i64 ((fst : Int) + (d : Int)), .int .i64 x.num, .int .i64 x.frm, .bool x.last, .string x.data] 126)).cell? ⟨g, 1, none⟩ = some (.int .i64 (fst : Int)) := (hbo.cell (World.block_lt_of_cell? wc _ q1)).trans q1
  have r2 : (wc.alloc (.cells #[.int .i64 ((fst : Int) + (d : Int)), .int .i64 x.num, .int .i64 x.frm, .bool x.last, .string x.data] 126)).cell? ⟨g, 2, none⟩ = some (.slice a0 n0 c0') := (hbo.cell (World.block_lt_of_cell? wc _ q2)).trans q2
  obtain ⟨i0, hi, hz0, hz1, hz2⟩ := info_parts Try.infoTn
  have HI := hid hi
  have HZ0 := hid hz0
  have HZ1 := hid hz1
  have HZ2 := hid hz2
  have HLN : Hid ((n0 + 1) * 48 ≤ 140737488355328) := by
    have h9 := HL2.out
    unfold manyO at h9
    exact (show (n0 + 1) * 48 ≤ 140737488355328 by have := HN0.out; omega)
  have HLM : Hid (n0 + 1 ≤ maxLen) := by
    have h9 := HL2.out
    unfold manyO at h9
    exact (show n0 + 1 ≤ maxLen by have := HN0.out; unfold maxLen; omega)
  have HPUSH : Hid (∀ v7 w7, w7.ownsRow 0 126 5 v7 (n0 + 1) (cellsTn ts ++ t.cells) → (wc.alloc (.cells #[.int .i64 ((fst : Int) + (d : Int)), .int .i64 x.num, .int .i64 x.frm, .bool x.last, .string x.data] 126)).drew.grownBy w7 (Value.slice a0 n0 c0').ownBlock → (v7.ownBlock = (Value.slice a0 n0 c0').ownBlock ∨ v7.ownBlock = some (wc.alloc (.cells #[.int .i64 ((fst : Int) + (d : Int)), .int .i64 x.num, .int .i64 x.frm, .bool x.last, .string x.data] 126)).drew.heap.size) →
      ∃ a7 c7, v7 = .slice a7 (n0 + 1) c7 ∧ w7.cell? ⟨g, 2, none⟩ = some (.slice a0 n0 c0') ∧ w7.frozen? ⟨g, 2, none⟩ = false ∧ RIn (w7.setCell ⟨g, 2, none⟩ (.slice a7 (n0 + 1) c7)) 0 g (.slice a7 (n0 + 1) c7) win fst (ts ++ [t]) ∧ Kept (g :: vl.ownBlock.toList) wc (w7.setCell ⟨g, 2, none⟩ (.slice a7 (n0 + 1) c7)) ∧ (∀ y, (Value.slice a7 (n0 + 1) c7).ownBlock = some y → vl.ownBlock = some y ∨ wc.heap.size ≤ y)) := fun v7 w7 ho7 hg7 hl7 => by
    obtain ⟨a7, c7, rfl, -, -, -⟩ := row_shape ho7
    have eob : (Value.slice a0 n0 c0').ownBlock = vl.ownBlock := by rw [HEV.out, HN0.out]
    have hkA : Kept [] wc (wc.alloc (.cells #[.int .i64 ((fst : Int) + (d : Int)), .int .i64 x.num, .int .i64 x.frm, .bool x.last, .string x.data] 126)).drew := ((Kept.refl _ wc).alloc _).drew
    have hk7 : Kept vl.ownBlock.toList wc w7 := by
      rw [← eob]
      exact (hkA.wider (by simp)).trans (Kept.grownR hg7)
    have hvl : ∀ y, vl.ownBlock = some y → y < wc.heap.size ∧ y ≠ g := fun y hy => ⟨(World.ownsRow.lt HP3.out.own y hy).2, fun e => HP3.out.ne (by rw [hy, e])⟩
    have hgS : g ∉ vl.ownBlock.toList := fun hm => (hvl g (by simpa using hm)).2 rfl
    have hA3 : At wc g 57 [.int .i64 (win : Int), .int .i64 (fst : Int), .slice a0 n0 c0'] := by
      have h9 := HP3.out.box
      rw [HEV.out, ← HN0.out] at h9
      exact h9
    have hA7 := hA3.kept hk7 hgS
    have hnew : ∀ y, (Value.slice a7 (n0 + 1) c7).ownBlock = some y → vl.ownBlock = some y ∨ wc.heap.size ≤ y := fun y hy => by
      rcases hl7 with q | q
      · rw [q, eob] at hy; exact .inl hy
      · rw [q] at hy
        cases hy
        right
        show wc.heap.size ≤ (wc.alloc _).heap.size
        rw [World.size_alloc]
        omega
    have hgl := HP3.out.lt
    have hng : ∀ y, (Value.slice a7 (n0 + 1) c7).ownBlock = some y → y ≠ g := fun y hy => by
      rcases hnew y hy with q | q
      · exact (hvl y q).2
      · omega
    refine ⟨a7, c7, rfl, hA7.cell 2, hA7.free 2, ⟨hA7.setCell (o := 2) _, ?_, fun e => hng g e rfl, Nat.zero_le _, fun s hs => ?_⟩, ?_, hnew⟩
    · rw [List.length_append, cellsTk_snoc, ← HN0.out]
      exact keptRow ho7 ((Kept.refl [g] w7).setCell (by simp) _) (fun y hy => by simpa using hng y hy)
    · rcases List.mem_append.1 hs with hs | hs
      · exact HP3.out.ok s hs
      · rw [List.mem_singleton] at hs
        subst hs
        rw [HTT.out]
        exact HUB.out
    · have h9 : Kept (g :: vl.ownBlock.toList) wc w7 := hk7.wider (fun y hy => List.mem_cons_of_mem _ hy)
      exact h9.setCell (by simp) _
  clear hi hz0 hz1 hz2 hrow hcl ht hbo HRA
  have hwr : IntKind.i64.wrap ((fst : Int) + (d : Int)) = (fst : Int) + (d : Int) := by simp [IntKind.wrap, IntKind.bits, IntKind.signed]; omega
  go_upto_region 10 with fail
  go_cut [] from 103 (fun wy => ∃ vl', Hid (RIn wy 0 g vl' win fst (ts ++ [t]) ∧ Kept (g :: vl.ownBlock.toList) wc wy ∧ (∀ y, vl'.ownBlock = some y → vl.ownBlock = some y ∨ wc.heap.size ≤ y)))
  case first =>
    go_region_law (refine step_pushR 0 wc.heap.size Try.underlying55 HI.out HZ0.out HZ1.out HZ2.out rfl (by decide) HOW.out rfl (.tmp 107) (.tmp 116) rfl rfl rfl HTL.out HR.out HON.out HLM.out HLN.out (Nat.zero_le _) ?_; intro v7 w7 ho7 hg7 hl7; obtain ⟨a7, c7, rfl, k7, f7, hp7⟩ := HPUSH.out _ _ ho7 hg7 hl7; have HP7 := hid hp7; clear ho7 hg7 hl7 hp7)
    all_goals
      go_wp2
      go_meet
      exact ⟨_, HP7⟩
  case rest =>
    obtain ⟨vl', HS⟩ := hcut
    exact ‹∀ a w, Code.wp _ _ _ a w → _› _ _ (rtell_tail HS.out.1 (by have h9 := HL2.out; unfold manyO at h9; rw [List.length_append]; unfold manyU; simp; omega) HF0.out (by rw [hiL_snoc, HTT.out]; have := HHI.out; have := HWN.out; have := HHO.out; show max _ (fst + d + 1) ≤ _; omega) (fun k a c w' h1 h2 h3 h4 h5 => by
      rw [← HPP.out, ← HTT.out]
      refine ⟨k, a, c, vl', rfl, h1, h2, h3, row_base h4 ?_, ?_, fun y hy => ?_⟩
      · exact Nat.le_trans HB3.out.size HS.out.2.1.size
      · exact (((Kept.of_below (S := []) HB3.out).wider (by simp)).trans HS.out.2.1).trans (h5.wider (fun y hy => by rw [List.mem_singleton] at hy; rw [hy]; exact List.mem_cons_self))
      · rcases HS.out.2.2 y hy with q | q
        · exact .inl q
        · exact .inr (Nat.le_trans HB3.out.size q)) _ _ _ _ _ _ _ _ _ _ _ _ _ _ _ _ _ _ _ _ _ _ _ _ _ _ _ _ _ _ _ _ _ _ _ _ _ _ _ _ _ _ _ _ _ _ _ _ _ _ _ _ _ _ _ _ _ _ _ _ _ _ _ _ _ _ _ _ _ _ _ _ _ _ _ _ _ _ _ _ _ _ _ _ _ _ _ _ _ _ _ _ _ _ _ _ _ _ _ _ _ _ _ _ _ _ _ _ _ _ _ _ _ _ _ _ _ _ _ _ _ _ _ _ _ _ _ _ _ _ _ _ _ _ _ _ _ _ _ _ _ _ _ _ _ _ _ _ _ _ _ _ _ _ _ _ _ _ _ _ _ _ _ _ _)
end Go.Proofs.Ytbjgfoiikhbonaf
namespace Go.Proofs.Ytbjgfoiikhbonaf
open Go.ChangeShapes Go.WideShapes Go.ChangeAt Go.RowKit
/-- It lies at p, in the blocks F; it has taken at most K pieces. -/
def RRcv (K : Nat) (w : World) (p : Addr) (F : List Nat) (r : InM) : Prop := ∃ g vl ts, p = ⟨g, 0, none⟩ ∧ F = g :: vl.ownBlock.toList ∧ RIn w 0 g vl r.win r.fst ts ∧ r = inOf r.win r.fst ts ∧ 1 ≤ r.win ∧ r.win ≤ 32 ∧ hiL 0 ts ≤ r.fst + 32 ∧ ts.length ≤ K
theorem rrcv_lt {K : Nat} {w : World} {p : Addr} {F : List Nat} {r : InM} (h : RRcv K w p F r) : ∀ x ∈ F, x < w.heap.size := by
  obtain ⟨g, vl, ts, -, rfl, h1, -⟩ := h
  intro x hx
  rcases List.mem_cons.1 hx with rfl | hx
  · exact h1.lt
  · exact (World.ownsRow.lt h1.own x (by simpa using hx)).2
theorem rrcv_kept {K : Nat} {w w' : World} {p : Addr} {F T : List Nat} {r : InM} (h : RRcv K w p F r) (hk : Kept T w w') (hd : ∀ x ∈ F, x ∉ T) : RRcv K w' p F r := by
  obtain ⟨g, vl, ts, rfl, rfl, h1, h2⟩ := h
  exact ⟨g, vl, ts, rfl, rfl, h1.kept hk (hd g List.mem_cons_self) (fun x hx => hd x (List.mem_cons_of_mem _ (by simpa using hx))), h2⟩
theorem rrcv_more {K L : Nat} {w : World} {p : Addr} {F : List Nat} {r : InM} (h : RRcv K w p F r) (hl : K ≤ L) : RRcv L w p F r := by
  obtain ⟨g, vl, ts, a, b, c, d, e, f, i, j⟩ := h
  exact ⟨g, vl, ts, a, b, c, d, e, f, i, by omega⟩
theorem rrcv_new (w : World) (k : Nat) (h1 : 1 ≤ k) (h2 : k ≤ 32) : RRcv 0 (w.alloc (.cells #[.int .i64 (k : Int), .int .i64 0, .slice none 0 0] 57)) ⟨w.heap.size, 0, none⟩ [w.heap.size] (InM.new k) :=
  ⟨w.heap.size, .slice none 0 0, [], rfl, rfl, ⟨at_alloc w 57 [.int .i64 (k : Int), .int .i64 0, .slice none 0 0], World.ownsRow_nil _ _ _ _, fun e => by simp [Value.ownBlock] at e, Nat.zero_le _, fun t ht => absurd ht (by simp)⟩, (inOf_new k).symm, h1, h2, by simp [hiL], Nat.le_refl _⟩
theorem txs_row {w : World} {B n c : Nat} {a : Option Addr} {l : List ByteArray} (h : w.ownsRow B 9 1 (.slice a n c) n (l.map Value.string)) (hn : l.length = n) : Txs w a l := by
  intro hne
  have h0 : 0 < l.length := List.length_pos_iff.2 hne
  rcases h.2 with ⟨h', h''⟩ | ⟨g, cap, cur, h', -, -⟩
  · omega
  · simp only [Value.slice.injEq] at h'
    obtain ⟨rfl, -, -⟩ := h'
    obtain ⟨cur, hA, -, -, -, -, hct, -⟩ := row_at h
    refine ⟨g, 0, rfl, fun i hi => ?_⟩
    rw [Nat.zero_add, hA.cell, ← List.getElem?_take_of_lt (j := n * 1) (by omega), hct, List.getElem?_map, List.getD_eq_getElem?_getD, List.getElem?_eq_getElem hi]
    rfl
theorem row_newAt {w : World} {B n c k : Nat} {T : TypeId} {a : Option Addr} {xs : List Value} (h : w.ownsRow B T k (.slice a n c) n xs) : NewAt B a := fun x hx => by
  obtain ⟨a', c', e, -, -, hx'⟩ := row_shape h
  simp only [Value.slice.injEq] at e
  obtain ⟨rfl, -, rfl⟩ := e
  obtain ⟨g', rfl, h5⟩ := hx' x hx
  exact (World.ownsRow.lt h g' h5).1
theorem toldR_len (win fst : Nat) (ts : List TakenM) (k : Nat) : (toldR win fst ts k).length = k := by simp [toldR]
theorem rrcv_take {K : Nat} {w : World} {p : Addr} {F : List Nat} {r : InM} (x : PieceM) (h : RRcv K w p F r) (hf : r.fst ≤ manyU) (hK : K ≤ manyO) (hx : -9223372036854775808 ≤ x.frm ∧ x.frm ≤ 9223372036854775807) (hd : x.data.size ≤ manyB) : Calls Try.prog 19 #[.pointer (some p), x.val] w fun e w' => ∃ a n c, e = .returned (.tuple #[.slice a n c, .int .i64 (r.take x).err]) ∧ Txs w' a (r.take x).out ∧ (r.take x).out.length = n ∧ n ≤ 32 ∧ NewAt w.heap.size a ∧ Kept F w w' ∧ ∃ F', RRcv (K + 1) w' p F' (r.take x).m ∧ Grown w.heap.size F F' := by
  have h0 := h
  obtain ⟨g, vl, ts, rfl, rfl, h1, h2, h3, h4, h5, h6⟩ := h
  have hfl : ∀ (er : Int) (w' : World), r.take x = ⟨r, [], er⟩ → Below w.heap.size w w' → ∃ a n c, Ending.returned (.tuple #[.slice none 0 0, .int .i64 er]) = .returned (.tuple #[.slice a n c, .int .i64 (r.take x).err]) ∧ Txs w' a (r.take x).out ∧ (r.take x).out.length = n ∧ n ≤ 32 ∧ NewAt w.heap.size a ∧ Kept (g :: vl.ownBlock.toList) w w' ∧ ∃ F', RRcv (K + 1) w' ⟨g, 0, none⟩ F' (r.take x).m ∧ Grown w.heap.size (g :: vl.ownBlock.toList) F' := fun er w' e hb => by
    rw [e]
    exact ⟨none, 0, 0, rfl, fun q => absurd rfl q, rfl, by omega, fun y hy => (by cases hy), Kept.of_below hb, _, rrcv_more (rrcv_kept h0 (Kept.of_below (S := []) hb) (by simp)) (by omega), fun y hy => .inl hy⟩
  have hfst : (r.take x) = if x.bad = true then ⟨r, [], 3⟩ else if r.win ≤ aheadN x.num r.fst then ⟨r, [], 8⟩ else if r.clash (r.fst + aheadN x.num r.fst) x = true then ⟨r, [], 3⟩ else (r.put (r.fst + aheadN x.num r.fst) x).tell := rfl
  have hm : K ≤ 2000000000000 := hK
  cases hb : x.bad with
  | true =>
    refine (rtake_bad x _ w hb hx hd).mono ?_
    rintro e w' ⟨rfl, hbw⟩
    exact hfl 3 w' (by rw [hfst, if_pos hb]) hbw
  | false =>
    by_cases ho : r.win ≤ aheadN x.num r.fst
    · refine (rtake_old x h1 hb hf ho).mono ?_
      rintro e w' ⟨rfl, hbw⟩
      exact hfl 8 w' (by rw [hfst, hb, if_neg (by simp), if_pos ho]) hbw
    · have hcl : r.clash (r.fst + aheadN x.num r.fst) x = ((match lenL (r.fst + aheadN x.num r.fst) none ts with
          | none => false
          | some n => (x.last && n != x.b) || decide (n < x.b)) || (x.last && decide (x.b < finL (r.fst + aheadN x.num r.fst) 0 ts))) := by
        unfold InM.clash
        rw [h2]
        rfl
      cases hc : r.clash (r.fst + aheadN x.num r.fst) x with
      | true =>
        refine (rtake_clash x h1 hb hf (by omega) (by unfold manyU; omega) (hcl.symm.trans hc)).mono ?_
        rintro e w' ⟨rfl, hbw⟩
        exact hfl 3 w' (by rw [hfst, hb, if_neg (by simp), if_neg ho, if_pos hc]) hbw
      | false =>
        refine (rtake_good x h1 hb hf (by omega) (by unfold manyU; omega) (hcl.symm.trans hc) (by unfold manyO; omega) h5 h4).mono ?_
        rintro e w' ⟨k, a, c, vl', rfl, g1, g2, g3, g4, g5, g6⟩
        have et : r.take x = ⟨inOf r.win (r.fst + k) (ts ++ [⟨r.fst + aheadN x.num r.fst, x⟩]), toldR r.win r.fst (ts ++ [⟨r.fst + aheadN x.num r.fst, x⟩]) k, 0⟩ := by
          rw [hfst, hb, if_neg (by simp), if_neg ho, hc, if_neg (by simp)]
          rw [← tellR_eq g1 g2, ← inOf_put, ← h2]
        rw [et]
        have hhi : hiL 0 (ts ++ [⟨r.fst + aheadN x.num r.fst, x⟩]) ≤ r.fst + 32 := by
          rw [hiL_snoc]
          show max _ (r.fst + aheadN x.num r.fst + 1) ≤ _
          omega
        have hk32 : k ≤ 32 := by
          cases k with
          | zero => omega
          | succ k =>
            have := wholeR_lt (g1 k (by omega))
            omega
        refine ⟨a, k, c, rfl, txs_row g4 (toldR_len _ _ _ _), toldR_len _ _ _ _, hk32, row_newAt g4, g5, g :: vl'.ownBlock.toList, ⟨g, vl', ts ++ [(⟨r.fst + aheadN x.num r.fst, x⟩ : TakenM)], rfl, rfl, g3, rfl, h3, h4, ?_, ?_⟩, fun y hy => ?_⟩
        · show hiL 0 _ ≤ r.fst + k + 32
          omega
        · rw [List.length_append]
          simp
          omega
        · rcases List.mem_cons.1 hy with rfl | hy
          · exact .inl List.mem_cons_self
          · rcases g6 y (by simpa using hy) with q | q
            · exact .inl (List.mem_cons_of_mem _ (by simpa using q))
            · exact .inr q
theorem rrcv_report {K : Nat} {w : World} {p : Addr} {F : List Nat} {r : InM} (h : RRcv K w p F r) (hf : r.fst ≤ manyU) (hK : K ≤ manyO) : Calls Try.prog 21 #[.pointer (some p)] w fun e w' => ∃ a n c, e = .returned (.agg #[.int .i64 r.report.next, .slice a n c]) ∧ Gps w' a r.report.miss ∧ r.report.miss.length = n ∧ n ≤ 100000 ∧ NewAt w.heap.size a ∧ Below w.heap.size w w' := by
  obtain ⟨g, vl, ts, rfl, rfl, h1, h2, h3, h4, h5, h6⟩ := h
  have hm : K ≤ 2000000000000 := hK
  have hh := inreport_any h1 (by unfold manyU; omega) hf h5
  rw [← h2] at hh
  refine hh.mono ?_
  rintro e w' ⟨a, n, c, rfl, g1, g2, g3, g4⟩
  have g3' := g3
  rw [g1] at g3'
  refine ⟨a, n, c, rfl, gps_row g3', g1.symm, g2, fun y hy => ?_, g4⟩
  have := row_newAt g3 y hy
  omega
end Go.Proofs.Ytbjgfoiikhbonaf
