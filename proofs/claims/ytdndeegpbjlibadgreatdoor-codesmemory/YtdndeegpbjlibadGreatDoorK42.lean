import Derived.Test.YtdndeegpbjlibadGreatDoorK41
import Derived.Test.YtdndeegpbjlibadGreatDoorK02
import Derived.Test.YtdndeegpbjlibadGreatDoorK37
namespace Go.Proofs.YtdndeegpbjlibadGreatDoor
open Go.ChangeShapes Go.WideShapes Go.ChangeAt Go.RowKit Go.Shelf

/-! THE PROGRAM'S Send. -/

def chunkQ (b : List Int) (order j : Nat) : List Int := (b.drop (j * order)).take order
theorem chunkQ_length {b : List Int} {order j m : Nat} (hb : b.length = m * order) (hj : j < m) : (chunkQ b order j).length = order := by
  unfold chunkQ
  rw [List.length_take, List.length_drop, hb]
  have : (j + 1) * order ≤ m * order := Nat.mul_le_mul_right _ (by omega)
  rw [Nat.add_mul] at this
  omega
theorem chunkQ_at {b : List Int} {order j k : Nat} (hk : k < order) : (chunkQ b order j).getD k 0 = b.getD (j * order + k) 0 := by
  unfold chunkQ
  simp [List.getD, hk]
theorem chunkQ_rd {w : World} {g o : Nat} {b : List Int} {order j m : Nat} (hr : Rd .u8 w (some ⟨g, o, none⟩) b) (hb : b.length = m * order) (hj : j < m) : Rd .u8 w (some ⟨g, o + j * order, none⟩) (chunkQ b order j) := by
  intro hne
  refine ⟨g, o + j * order, rfl, fun t ht => ?_⟩
  have hl := chunkQ_length hb hj
  have h1 : (j + 1) * order ≤ m * order := Nat.mul_le_mul_right _ (by omega)
  rw [Nat.add_mul] at h1
  have hlt : j * order + t < b.length := by omega
  obtain ⟨g', o', e, hc⟩ := hr.at hlt
  simp only [Option.some.injEq, Addr.mk.injEq, and_true] at e
  obtain ⟨rfl, rfl⟩ := e
  have := hc (j * order + t) hlt
  rw [← Nat.add_assoc] at this
  rw [this, chunkQ_at (by omega)]
def ptA (h : Nat) (c : List Int) : Int × Int := (levM (numM c 0 h) h, levM (numM c 1 h) h)
def sentA (h : Nat) (b : List Int) (order n i : Nat) : List (Int × Int) := (List.range i).map (fun j => ptA h (chunkQ b order j)) ++ List.replicate (n - i) (0, 0)
theorem sentA_set {h : Nat} {b : List Int} {order n i : Nat} (hi : i < n) : (sentA h b order n i).set i (ptA h (chunkQ b order i)) = sentA h b order n (i + 1) := by
  unfold sentA
  rw [List.set_append_right _ _ (by simp), List.length_map, List.length_range, Nat.sub_self, List.range_succ, List.map_append, List.append_assoc, show n - i = n - (i + 1) + 1 by omega, List.replicate_succ]
  rfl
theorem sentA_length {h : Nat} {b : List Int} {order n i : Nat} (hi : i ≤ n) : (sentA h b order n i).length = n := by simp [sentA]; omega
theorem run_idxQ {ρ : Operand → Value} (w : World) {o : Oper} {x y : Operand} {g j n c : Nat} (ho : o.op = .indexAddr 24 x y) (h : ρ x = .slice (some ⟨g, 0, none⟩) n c) (h' : ρ y = .int .i64 j) (hj : j < n) : (execOp ρ o).run Tryz.prog w = .ok (.value (.pointer (some ⟨g, j * 2, none⟩))) w := by
  unfold execOp
  simp only [ho, h, h']
  simp [go_sem, Tryz.underlying24, hj]
theorem run_buildQ {ρ : Operand → Value} (w : World) {o : Oper} {x y : Operand} {p q : Int} (ho : o.op = .build 29 #[(0, x), (1, y)]) (h : ρ x = .int .i64 p) (h' : ρ y = .int .i64 q) : (execOp ρ o).run Tryz.prog w = .ok (.value (.agg #[.int .i64 p, .int .i64 q])) w := by
  unfold execOp
  simp only [ho]
  simp [go_sem, h, h']

set_option maxRecDepth 100000 in
set_option maxHeartbeats 4000000 in
theorem send_good (b : List Int) (h o n : Nat) (a : Option Addr) (c : Nat) (w : World) (hr : Rd .u8 w a b) (hbc : b.length ≤ c) (hcm : c ≤ maxLen) (hE : errOf b = 0) (h1 : 1 ≤ h) (hh : h ≤ 3) (ho : o = 2 * h) (hl : b.length = n * o) (hn : n ≤ 4096) (hbit : ∀ x ∈ b, x = 0 ∨ x = 1) :
    Calls Tryz.prog 16 #[.slice a b.length c, .int .i64 o] w fun e w' => ∃ g, e = .returned (.tuple #[.slice (some ⟨g, 0, none⟩) n n, .int .i64 0]) ∧ PArr w' g (sentA h b o n n) ∧ w.heap.size ≤ g ∧ Below w.heap.size w w' := by
  have hchk := check_any b a c w hr (Nat.le_trans hbc hcm)
  rw [hE] at hchk
  have hord := ord_any o w
  rw [show ordErr o = 0 by unfold ordErr ordOk5; rw [decide_eq_true (by omega)]; rfl] at hord
  have hlev := levels_any h (2 ^ h) w h1 hh rfl
  obtain ⟨N8, eN⟩ : ∃ N8, N8 = 2 ^ h := ⟨_, rfl⟩
  rw [← eN] at hlev
  have HN8 := hid eN
  have HL := hid hl
  have HO := hid ho
  have ho6 : o = 2 ∨ o = 4 ∨ o = 6 := by omega
  have hq2 : (o : Int).tdiv 2 = h := by rw [ho, Int.tdiv_eq_ediv_of_nonneg (by omega)]; omega
  have hq2' : (o : Int) / 2 = h := by rw [ho]; omega
  obtain ⟨T, eT⟩ : ∃ T, T = b.length := ⟨_, rfl⟩
  have hTm : T ≤ 24576 := by
    rw [eT, hl]
    have : n * o ≤ 4096 * 6 := Nat.mul_le_mul hn (by omega)
    omega
  have hqn : ((T : Int)).tdiv (o : Int) = n := by rw [eT, hl, Int.tdiv_eq_ediv_of_nonneg (by omega)]; rw [Int.natCast_mul, Int.mul_ediv_cancel _ (by omega)]
  have hqn' : ((T : Int)) / (o : Int) = n := by rw [eT, hl, Int.natCast_mul, Int.mul_ediv_cancel _ (by omega)]
  have hrm : ((T : Int)).tmod (o : Int) = 0 := by rw [eT, hl, Int.tmod_eq_emod_of_nonneg (by omega), Int.natCast_mul, Int.mul_emod_left]
  have hrm' : ((T : Int)) % (o : Int) = 0 := by rw [eT, hl, Int.natCast_mul, Int.mul_emod_left]
  rw [← eT] at hchk hbc
  rw [← eT]
  have HT := hid eT
  have hz1 : ((o : Int) == 0) = false := beq_eq_false_iff_ne.2 (by omega)
  have hz2 : (o : Int) ≠ 0 := by omega
  have hNE : Enters Tryz.prog 42 := enters_of Tryz.func42 (by kernel_rfl) rfl
  have hmix : Tryz.prog.follows .mixedOrders = true := by kernel_rfl
  clear eT hl ho eN
  go_enter Tryz.func16, Tryz.ntmps16
  go_wp2_with (first
    | (go_at_call 28; refine hchk.mono ?_; rintro e w1 ⟨rfl, rfl⟩)
    | (go_at_call 40; refine hord.mono ?_; rintro e w1 ⟨rfl, rfl⟩)
    | (go_at_call 41; refine hlev.mono ?_; rintro e w1 ⟨gL, rfl, harL, hgL, hbelL⟩)
    | (refine wpList_makePts n rfl _ _ rfl _ _ rfl rfl rfl rfl (by omega) ?_; intro w2 hP2 hb2))
  obtain ⟨G, eG⟩ : ∃ G, G = w1.heap.size := ⟨_, rfl⟩
  rw [← eG] at hP2 hb2
  rw [← eG]
  have HG := hid eG
  have hGw : w.heap.size ≤ G := by rw [eG]; exact hbelL.size
  have hgLG : gL < G := by rw [eG]; exact harL.lt
  have harL2 := harL.below hb2 hgLG
  have hbw2 : Below w.heap.size w w2 := hbelL.trans (hb2.mono hGw)
  clear eG hchk hord hlev harL hb2 hbelL
  go_loopw [37] (fun q wr => ∃ i : Nat, i ≤ n ∧ q = .int .i64 i ∧ PArr wr G (sentA h b o n i) ∧ Kept [G] w2 wr) (fun q _ => n - (intOf q).toNat)
  case atStart => exact ⟨0, Nat.zero_le _, rfl, by simpa [sentA] using hP2, Kept.refl _ _⟩
  case round =>
    obtain ⟨i, hi, rfl, hP, hkept⟩ := hrel
    by_cases hlt : i < n
    · have h3 : (i + 1) * o ≤ n * o := Nat.mul_le_mul_right _ (by omega)
      rw [Nat.add_mul, Nat.one_mul, ← HL.out, ← HT.out] at h3
      obtain ⟨s, es⟩ : ∃ s, s = i * o := ⟨_, rfl⟩
      rw [← es] at h3
      have hs1 : (i : Int) * (o : Int) = (s : Int) := by rw [es, Int.natCast_mul]
      have hs2 : ((i : Int) + 1) * (o : Int) = ((s + o : Nat) : Int) := by rw [es, Int.add_mul, Int.one_mul, Int.natCast_add, Int.natCast_mul]
      have HS := hid es
      have hkb : Below w.heap.size w wr := hbw2.trans (hkept.below (B := w.heap.size) hbw2.size (by simpa using hGw))
      obtain ⟨b1, o1, rfl, -⟩ := hr.at (i := 0) (by rw [← HT.out]; omega)
      have hrc := chunkQ_rd (hr.below hkb) HL.out hlt
      rw [← es] at hrc
      have hlc := chunkQ_length HL.out hlt
      have hbc2 : ∀ j, (chunkQ b o i).getD j 0 = 0 ∨ (chunkQ b o i).getD j 0 = 1 := fun j => by
        by_cases hj : j < (chunkQ b o i).length
        · rw [getD_atQ _ _ hj]
          exact hbit _ (List.mem_of_mem_drop (List.mem_of_mem_take (List.getElem_mem hj)))
        · left; simp [List.getD, List.getElem?_eq_none (Nat.le_of_not_lt hj)]
      clear es
      go_upto_region 15 with fail
      have hsub : s + o - s = o := by omega
      have hn0 := fun w hr => number_any (chunkQ b o i) 0 h o (some ⟨b1, o1 + s, none⟩) (c - s) w hr hlc HO.out hh (by omega) hbc2
      have hn1 := fun w hr => number_any (chunkQ b o i) 1 h o (some ⟨b1, o1 + s, none⟩) (c - s) w hr hlc HO.out hh (by omega) hbc2
      have hb0 : numM (chunkQ b o i) 0 h < N8 := by rw [HN8.out]; exact numM_bd hbc2 0 h
      have hb1 : numM (chunkQ b o i) 1 h < N8 := by rw [HN8.out]; exact numM_bd hbc2 1 h
      have harL' := harL2.kept hkept (by simp; omega)
      have c0 := lev_rd harL' (j := numM (chunkQ b o i) 0 h) (by rw [← HN8.out]; exact hb0)
      have c1 := lev_rd harL' (j := numM (chunkQ b o i) 1 h) (by rw [← HN8.out]; exact hb1)
      have HSET := hid (sentA_set (h := h) (b := b) (order := o) hlt)
      have HLEN := hid (sentA_length (h := h) (b := b) (order := o) hi)
      have HPT := hid (show ptA h (chunkQ b o i) = (levM (numM (chunkQ b o i) 0 h) h, levM (numM (chunkQ b o i) 1 h) h) from rfl)
      rw [HPT.out] at HSET
      generalize numM (chunkQ b o i) 0 h = x0 at *
      generalize numM (chunkQ b o i) 1 h = x1 at *
      generalize levM x0 h = y0 at *
      generalize levM x1 h = y1 at *
      refine wp_mono (region_grow (Q := fun e a' w' => e = .normal ∧ a' = _ ∧ ∃ w1, Below wr.heap.size wr w1 ∧ w' = w1.setCells G (i * 2) [.int .i64 y0, .int .i64 y1]) 15 14 13 [(49, .slice (some ⟨G, 0, none⟩) n n), (50, .int .i64 i), (51, .slice (some ⟨gL, 0, none⟩) N8 N8), (52, .slice (some ⟨b1, o1 + s, none⟩) o (c - s)), (53, .int .i64 x0), (54, .pointer (some ⟨gL, 0 + x0, none⟩)), (55, .int .i64 y0), (56, .slice (some ⟨gL, 0, none⟩) N8 N8), (57, .slice (some ⟨b1, o1 + s, none⟩) o (c - s)), (58, .int .i64 x1), (59, .pointer (some ⟨gL, 0 + x1, none⟩)), (60, .int .i64 y1), (61, .agg #[.int .i64 y0, .int .i64 y1])] 62 []
          [[9], [10], [8], [11], [52], [51, 53], [54], [8], [11], [57], [56, 58], [59], [55, 60], [49, 50]] [13, 13, 5, 4, 5, 6, 12, 10, 9, 10, 11, 12, 14, 14] (fun u _ => u = .pointer (some ⟨G, i * 2, none⟩)) wr hmix rfl (by decide) rfl rfl (show ([49, 50, 51, 52, 53, 54, 55, 56, 57, 58, 59, 60, 61, 62] : List Nat).Nodup by decide) (by kernel_rfl) (by kernel_rfl) (by kernel_rfl) (by kernel_rfl) (by kernel_rfl) (by kernel_rfl) (fun _ _ _ h _ => h)
          (fun i' hi' u0 a wc hbc hr Q K hK1 hK => by
            have h14 : i' = 0 ∨ i' = 1 ∨ i' = 2 ∨ i' = 3 ∨ i' = 4 ∨ i' = 5 ∨ i' = 6 ∨ i' = 7 ∨ i' = 8 ∨ i' = 9 ∨ i' = 10 ∨ i' = 11 ∨ i' = 12 ∨ i' = 13 := by omega
            have hgr := grownBy_self wc
            have q0 := (hbc.cell (World.block_lt_of_cell? wr _ c0)).trans c0
            have q1 := (hbc.cell (World.block_lt_of_cell? wr _ c1)).trans c1
            rcases h14 with rfl | rfl | rfl | rfl | rfl | rfl | rfl | rfl | rfl | rfl | rfl | rfl | rfl | rfl
            · exact op_value rfl rfl (run_moveQ wc rfl (hr 9 (by decide))) (hK (by decide) wc hgr)
            · exact op_value rfl rfl (run_moveQ wc rfl (hr 10 (by decide))) (hK (by decide) wc hgr)
            · exact op_value rfl rfl (run_moveQ wc rfl (hr 8 (by decide))) (hK (by decide) wc hgr)
            · exact op_value rfl rfl (run_moveQ wc rfl ((hr 11 (by decide)).trans (congrArg (fun z => Value.slice (some ⟨b1, o1 + s, none⟩) z (c - s)) hsub))) (hK (by decide) wc hgr)
            · refine op_callN rfl rfl rfl hNE (by simp only [List.map_toArray, List.map_cons, List.map_nil]; rw [hr 52 (by decide)]; rfl) (hn0 wc (hrc.below hbc)) fun e w' hr' => ?_
              obtain ⟨rfl, rfl⟩ := hr'
              exact ⟨_, rfl, hK (by decide) wc hgr⟩
            · exact op_value rfl rfl (run_idxI wc rfl (hr 51 (by decide)) (hr 53 (by decide)) hb0) (hK (by decide) wc hgr)
            · exact op_value rfl rfl (run_loadI wc rfl (hr 54 (by decide)) (by rw [Nat.zero_add]; exact q0)) (hK (by decide) wc hgr)
            · exact op_value rfl rfl (run_moveQ wc rfl (hr 8 (by decide))) (hK (by decide) wc hgr)
            · exact op_value rfl rfl (run_moveQ wc rfl ((hr 11 (by decide)).trans (congrArg (fun z => Value.slice (some ⟨b1, o1 + s, none⟩) z (c - s)) hsub))) (hK (by decide) wc hgr)
            · refine op_callN rfl rfl rfl hNE (by simp only [List.map_toArray, List.map_cons, List.map_nil]; rw [hr 57 (by decide)]; rfl) (hn1 wc (hrc.below hbc)) fun e w' hr' => ?_
              obtain ⟨rfl, rfl⟩ := hr'
              exact ⟨_, rfl, hK (by decide) wc hgr⟩
            · exact op_value rfl rfl (run_idxI wc rfl (hr 56 (by decide)) (hr 58 (by decide)) hb1) (hK (by decide) wc hgr)
            · exact op_value rfl rfl (run_loadI wc rfl (hr 59 (by decide)) (by rw [Nat.zero_add]; exact q1)) (hK (by decide) wc hgr)
            · exact op_value rfl rfl (run_buildQ wc rfl (hr 55 (by decide)) (hr 60 (by decide))) (hK (by decide) wc hgr)
            · exact op_value rfl rfl (run_idxQ wc rfl (hr 49 (by decide)) (hr 50 (by decide)) hlt) (hK1 rfl _ wc hgr rfl))
          (fun u0 wc hbc hu0 => by
            subst hu0
            have hnd : ([49, 50, 51, 52, 53, 54, 55, 56, 57, 58, 59, 60, 61, 62] : List Nat).Nodup := by decide
            exact op_skipQ rfl rfl (run_storeQ (g := G) (i := i) (p := (y0, y1)) wc rfl (eval_setAll 62 hnd (by kernel_rfl)) (eval_setAll 61 hnd (by kernel_rfl)) (hP.below hbc hP.lt) (by rw [HLEN.out]; exact hlt)) ⟨rfl, rfl, wc, hbc, rfl⟩)) ?_
      rintro e a' w' ⟨rfl, rfl, w3, hb3, rfl⟩
      have hP3 := hP.below hb3 hP.lt
      have hset := hP3.set (i := i) (by rw [HLEN.out]; exact hlt) (y0, y1)
      rw [HSET.out] at hset
      have hkept' : Kept [G] w2 (w3.setCells G (i * 2) [.int .i64 y0, .int .i64 y1]) := ((hkept.trans (Kept.of_below hb3)).setCell (p := ⟨G, i * 2, none⟩) (by simp) _).setCell (p := ⟨G, i * 2 + 1, none⟩) (by simp) _
      generalize w3.setCells G (i * 2) [.int .i64 y0, .int .i64 y1] = w4 at *
      clear HSET hP3 hP hb3 c0 c1 hn0 hn1 hrc harL' hkb hkept HPT
      dsimp only [setAll, List.set, List.append_nil, List.cons_append, List.nil_append]
      go_wp2
      go_roundw
      case rel => first | exact ⟨i + 1, by omega, by go_num, hset, hkept'⟩ | ((repeat apply Exists.intro); exact ⟨⟨i + 1, by omega, by go_num, hset, hkept'⟩, rfl⟩)
      case measure => simp [intOf]; omega
    · obtain rfl : i = n := by omega
      have hkb : Below w.heap.size w wr := hbw2.trans (hkept.below (B := w.heap.size) hbw2.size (by simpa using hGw))
      clear hkept
      go_wp2
      go_ret2
      exact ⟨G, rfl, hP, hGw, hkb⟩
end Go.Proofs.YtdndeegpbjlibadGreatDoor
