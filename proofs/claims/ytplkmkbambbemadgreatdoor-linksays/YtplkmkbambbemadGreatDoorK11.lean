import Derived.Test.YtplkmkbambbemadGreatDoorK10
import Derived.Test.YtplkmkbambbemadGreatDoorK04
import Derived.Test.YtplkmkbambbemadGreatDoorK05
import Derived.Test.YtplkmkbambbemadGreatDoorK06
import Derived.Test.YtplkmkbambbemadGreatDoorK02
import Derived.Test.YtplkmkbambbemadGreatDoorK07
import Derived.Test.YtplkmkbambbemadGreatDoorK08
namespace Go.Proofs.YtplkmkbambbemadGreatDoor
open Go.ChangeShapes Go.WideShapes Go.ChangeAt Go.RowKit Go.Shelf
def ptM (h : Nat) (l : List Int) : Int × Int := (sideR l 0 h, sideR l 1 h)
def chunkM (b : List Int) (order j : Nat) : List Int := (b.drop (j * order)).take order
def sentM (h : Nat) (b : List Int) (order n : Nat) : List (Int × Int) := (List.range n).map fun j => ptM h (chunkM b order j)
def sentTo (h : Nat) (b : List Int) (order j k : Nat) : List (Int × Int) := sentM h b order j ++ (((wordsM order).take k).filter fun l => decide (l = chunkM b order j)).map (ptM h)
theorem chunkM_length {b : List Int} {order j m : Nat} (hb : b.length = m * order) (hj : j < m) : (chunkM b order j).length = order := by
  unfold chunkM
  rw [List.length_take, List.length_drop, hb]
  have : (j + 1) * order ≤ m * order := Nat.mul_le_mul_right _ (by omega)
  rw [Nat.add_mul] at this
  omega
theorem sentTo_all {h : Nat} {b : List Int} {order j m : Nat} (hb : b.length = m * order) (hj : j < m) (hbits : ∀ x ∈ b, x = 0 ∨ x = 1) : sentTo h b order j (2 ^ order) = sentM h b order (j + 1) := by
  unfold sentTo
  rw [List.take_of_length_le (by rw [wordsM_length]; exact Nat.le_refl _), words_pick (chunkM_length hb hj) (fun x hx => hbits x (List.mem_of_mem_drop (List.mem_of_mem_take hx)))]
  simp [sentM, List.range_succ]
theorem sentTo_succ {h : Nat} {b : List Int} {order j k : Nat} (hk : k < 2 ^ order) : sentTo h b order j (k + 1) = sentTo h b order j k ++ (if (wordsM order).getD k [] = chunkM b order j then [ptM h ((wordsM order).getD k [])] else []) := by
  have hl : k < (wordsM order).length := by rw [wordsM_length]; exact hk
  unfold sentTo
  rw [List.take_succ_eq_append_getElem hl, List.filter_append, List.map_append, List.append_assoc]
  congr 2
  have e : (wordsM order).getD k [] = (wordsM order)[k] := by simp [List.getD, hl]
  rw [e]
  by_cases hc : (wordsM order)[k] = chunkM b order j
  · rw [if_pos hc]; simp [hc]
  · rw [if_neg hc]; simp [hc]
theorem filter_bd (LL : List (List Int)) (c : List Int) : ∀ k, (((LL.take k).filter fun l => decide (l = c))).length ≤ k := fun k => by
  have h1 := List.length_filter_le (fun l => decide (l = c)) (LL.take k)
  rw [List.length_take] at h1
  omega
/-- Where a chunk is read. -/
theorem chunk_rd {w : World} {g o : Nat} {b : List Int} {order j m : Nat} (hr : Rd .u8 w (some ⟨g, o, none⟩) b) (hb : b.length = m * order) (hj : j < m) (h1 : 1 ≤ order) : Rd .u8 w (some ⟨g, o + j * order, none⟩) (chunkM b order j) := by
  intro _
  refine ⟨g, o + j * order, rfl, fun t ht => ?_⟩
  have hl := chunkM_length hb hj
  have hne : b ≠ [] := by
    rintro rfl
    simp at hb
    have : 1 ≤ m * order := Nat.mul_pos (by omega) h1
    omega
  obtain ⟨g', o', e, hc⟩ := hr hne
  simp at e
  obtain ⟨rfl, rfl⟩ := e
  have hlt : j * order + t < b.length := by
    have : (j + 1) * order ≤ m * order := Nat.mul_le_mul_right _ (by omega)
    rw [Nat.add_mul] at this
    omega
  have := hc (j * order + t) hlt
  rw [← Nat.add_assoc] at this
  rw [this]
  congr 2
  unfold chunkM
  simp only [List.getD, List.getElem?_take, List.getElem?_drop]
  rw [if_pos (by omega)]
theorem run_sliceQ {ρ : Operand → Value} (w : World) {o : Oper} {x y z : Operand} {g s n c i j : Nat} (ho : o.op = .slice 22 x (some y) (some z) none) (h : ρ x = .slice (some ⟨g, s, none⟩) n c) (h' : ρ y = .int .i64 i) (h'' : ρ z = .int .i64 j) (hij : i ≤ j) (hjn : j ≤ n) (hnc : n ≤ c) (hi : i < c) : (execOp ρ o).run Tryz.prog w = .ok (.value (.slice (some ⟨g, s + i, none⟩) (j - i) (c - i))) w := by
  unfold execOp
  simp only [ho]
  simp [go_sem, h, h', h'', Tryz.underlying22]
  rw [if_pos (by omega), if_pos hij, if_neg (by omega)]
theorem own_monoN {w : World} {B B' : Nat} {e : TypeId} {z : Nat} {v : Value} {n : Nat} {xs : List Value} (h : w.ownsRow B e z v n xs) (hB : B' ≤ B) : w.ownsRow B' e z v n xs := by
  refine ⟨h.1, ?_⟩
  rcases h.2 with h' | ⟨g, cap, cur, h1, h2, h3⟩
  · exact .inl h'
  · exact .inr ⟨g, cap, cur, h1, by omega, h3⟩
theorem wpList_pushPt {ops : Array Oper} {rest : List Oper} {o : Oper} {a : Act} {Q : Exit → Act → World → Prop} {w0 : World} {v : Value} {ps : List (Int × Int)} (B : Nat) (w00 : World) (p : Int × Int) (hown : OwnP w0 B v ps) (hgd : o.guard = none) (s x : Operand)
    (ho : o.op = .call { callee := .builtin .append, args := #[s, x], argTypes := #[24, 24] }) (hs : a.eval s = v)
    (hx : a.eval x = .slice (some ⟨w0.heap.size, 0, none⟩) 1 1) (hlen : ps.length ≤ 100000) (hbel : Below B w00 w0) (hB : B ≤ w0.heap.size)
    (h : ∀ v' w', OwnP w' B v' (ps ++ [p]) → Below B w00 w' → wpList Tryz.prog ops Q rest (a.put o.dst v') w') : wpList Tryz.prog ops Q (o :: rest) a (w0.alloc (.cells #[.int .i64 p.1, .int .i64 p.2] 29)) := by
  have hg0 := World.grownBy_alloc w0 (.cells #[.int .i64 p.1, .int .i64 p.2] 29) none
  obtain ⟨v', w', hrun, h1, h2, _⟩ := run_pushP (ρ := a.eval) (p := p) (w0.alloc (.cells #[.int .i64 p.1, .int .i64 p.2] 29)) ho hs hx (own_growN hown hg0 (fun k e => by cases e)) (by simp) (by simp) hlen (by simp; omega)
  refine wpList_plain hgd fun K hK => ?_
  unfold Oper.wp
  rw [hrun]
  exact hK _ _ (h v' w' h1 ((hbel.grown hg0 hB (fun k e => by cases e)).grown h2 (by simp; omega) (fun g e => (World.ownsRow.lt hown g e).1)))
set_option maxRecDepth 100000 in
set_option maxHeartbeats 2000000 in
theorem sent_any (order h m : Nat) (b : List Int) (a : Option Addr) (n c : Nat) (w : World) (ho : order = 2 * h) (h1 : 1 ≤ h) (hh : h ≤ 3) (hb : Rd .u8 w a b) (hn : b.length = n) (hl : b.length = m * order) (hnc : n ≤ c) (hn4 : n ≤ 4096) (hbits : ∀ x ∈ b, x = 0 ∨ x = 1) :
    Calls Tryz.prog 79 #[.slice a n c, .int .i64 order] w fun e w' => ∃ v, e = .returned v ∧ OwnP w' w.heap.size v (sentM h b order m) ∧ Below w.heap.size w w' := by
  have ho6 : order ≤ 6 := by omega
  have ho1 : 2 ≤ order := by omega
  have HN := hid hn
  have HL := hid hl
  have hcon := constellation_any order h w ho h1 hh
  clear hn hl ho
  go_enter Tryz.func79, Tryz.ntmps79
  go_wp2_with fail
  refine hcon.mono ?_
  rintro e w1 ⟨v4, v8, vs4, rfl, hown4, hrow4, hown8, hb1⟩
  have hl4 : vs4.length = 2 ^ order := by rw [hrow4.1, wordsM_length]
  have hl8 : ((wordsM order).map fun l => (sideR l 0 h, sideR l 1 h)).length = 2 ^ order := by rw [List.length_map, wordsM_length]
  have hp1 : 1 ≤ 2 ^ order := Nat.one_le_two_pow
  have hp6 : 2 ^ order ≤ 64 := Nat.le_trans (Nat.pow_le_pow_right (by decide) ho6) (by decide)
  obtain ⟨gL, cL, e4, hc4, hm4, hg4⟩ := hown4.shape1 (by omega)
  obtain ⟨aP, cP, e8, hc8, hm8⟩ := hown8.shape
  subst e4
  subst e8
  have hptsP := hown8.pts
  rw [hl4] at hown4 hc4
  rw [hl8] at hc8
  obtain ⟨nL, enL⟩ : ∃ nL, nL = 2 ^ order := ⟨_, rfl⟩
  rw [← enL] at hl4 hl8 hp1 hp6 hown4 hc4 hc8
  rw [hl4, hl8]
  have HNL := hid enL
  unfold maxLen at hm4 hm8
  clear enL hown8
  go_wp2
  go_loopw [7, 8] (fun v q wr => ∃ j t : Nat, j ≤ m ∧ Hid (t = j * order) ∧ t ≤ n ∧ q = .int .i64 t ∧ OwnP wr w1.heap.size v (sentM h b order j) ∧ Below w1.heap.size w1 wr) (fun _ q _ => n - (intOf q).toNat)
  case atStart => exact ⟨0, 0, Nat.zero_le _, by unfold Hid; omega, Nat.zero_le _, rfl, World.ownsRow_nil _ _ _ _, Below.refl _ _⟩
  case round =>
    obtain ⟨j, t, hj, HT, ht, rfl, hown7, hbel⟩ := hrel
    by_cases hlt : t < n
    · have hjm : j < m := by
        rcases Nat.lt_or_ge j m with h | h
        · exact h
        · have : m * order ≤ j * order := Nat.mul_le_mul_right _ h
          have := HT.out; have := HL.out; have := HN.out; omega
      have hto : t + order ≤ n := by
        have : (j + 1) * order ≤ m * order := Nat.mul_le_mul_right _ (by omega)
        rw [Nat.add_mul] at this
        have := HT.out; have := HL.out; have := HN.out; omega
      have HJM := hid hjm
      have HTN := hid hlt
      go_wp2
      go_loopw [7, 9] (fun v q ws => ∃ k : Nat, k ≤ nL ∧ q = .int .i64 k ∧ OwnP ws w1.heap.size v (sentTo h b order j k) ∧ Below w1.heap.size w1 ws) (fun _ q _ => nL - (intOf q).toNat)
      case atStart => exact ⟨0, Nat.zero_le _, rfl, by simpa [sentTo] using hown7, hbel⟩
      case round =>
        clear hown7 hbel
        obtain ⟨k, hk, rfl, hown7, hbel⟩ := hrel
        by_cases hkl : k < nL
        · have hkl' : k < (wordsM order).length := by rw [wordsM_length]; have := HNL.out; omega
          have hkv : k < vs4.length := by omega
          have hcell := (hown4.below hbel).cell hkv
          have hOi := (hrow4.below hbel).2 k hkl'
          obtain ⟨ai, ci, ei, -, hci, hmi⟩ := hOi.shape
          have hwl : ((wordsM order).getD k []).length = order := words_len (words_at (by rw [← HNL.out]; exact hkl))
          rw [ei] at hcell hOi
          have hrow := hOi.rd
          have hbne : b ≠ [] := by
            rintro rfl
            have := HN.out
            simp at this
            omega
          have hbr := (hb.below hb1).below hbel
          obtain ⟨gb, ob, rfl, -⟩ := hbr hbne
          have hck := chunk_rd hbr HL.out hjm (by omega)
          rw [← HT.out] at hck
          have hcl := chunkM_length HL.out hjm
          have hmix : Tryz.prog.follows .mixedOrders = true := by kernel_rfl
          have hE : Enters Tryz.prog 23 := enters_of Tryz.func23 (by kernel_rfl) rfl
          have hpt := (hptsP.below hbel).at (i := k) (by rw [hl8]; exact hkl)
          obtain ⟨gP, oP, rfl, hcp⟩ := hpt
          have hpk := hcp k (by rw [hl8]; exact hkl)
          have epk : ((wordsM order).map fun l => (sideR l 0 h, sideR l 1 h)).getD k (0, 0) = ptM h ((wordsM order).getD k []) := by
            simp [List.getD, hkl', ptM]
          rw [epk] at hpk
          have hss := fun w => same_bits ((wordsM order).getD k []) (chunkM b order j) ai (some ⟨gb, ob + t, none⟩) ci (c - t) w
          have hce : (chunkM b order j).length = t + order - t := by rw [hcl]; omega
          rw [hce] at hss
          have HSU := hid (sentTo_succ (h := h) (b := b) (order := order) (j := j) (k := k) (by rw [← HNL.out]; exact hkl))
          obtain ⟨same, esame⟩ : ∃ same, same = decide ((wordsM order).getD k [] = chunkM b order j) := ⟨_, rfl⟩
          rw [← esame] at hss
          have HSA := hid esame
          have hw : IntKind.i64.wrap ((t : Int) + (order : Int)) = (t : Int) + (order : Int) := by rw [IntKind.wrap_i64]; omega
          have hto' : t + order ≤ n := hto
          clear hcp epk esame
          go_upto_region 9 with fail
          refine wp_mono (region_known 11 [28, 29, 30, 31, 32, 33, 34, 35, 36, 37, 38] [[5], [9], [28, 29], [30], [0], [8], [8], [1], [34, 35], [32, 33, 36], [31, 37]] [.slice (some ⟨gb, ob, none⟩) n c, .int .i64 order, undef, undef, .slice none 0 0, .slice (some ⟨gL, 0, none⟩) nL cL, .slice (some ⟨gP, oP, none⟩) nL cP, u7, .int .i64 t, .int .i64 k, .tuple #[.slice (some ⟨gL, 0, none⟩) nL cL, .slice (some ⟨gP, oP, none⟩) nL cP], .int .i64 order, .tuple #[.slice (some ⟨gL, 0, none⟩) nL cL, .slice (some ⟨gP, oP, none⟩) nL cP], .slice (some ⟨gL, 0, none⟩) nL cL, .slice (some ⟨gP, oP, none⟩) nL cP, .int .i64 t, .slice (some ⟨gb, ob, none⟩) n c, .int .i64 n, .bool true, u19, u20, u21, .int .i64 k, .slice (some ⟨gL, 0, none⟩) nL cL, .int .i64 nL, .bool true, u26, u27, .slice (some ⟨gL, 0, none⟩) nL cL, .int .i64 k, .pointer (some ⟨gL, 0 + k, none⟩), .slice ai ((wordsM order).getD k []).length ci, .slice (some ⟨gb, ob, none⟩) n c, .int .i64 t, .int .i64 t, .int .i64 order, .int .i64 ((t : Int) + (order : Int)), .slice (some ⟨gb, ob + t, none⟩) (t + order - t) (c - t), .bool same, u39, u40, u41, u42, u43, u44, u45, undef] _ wr hmix rfl rfl rfl rfl (by kernel_rfl) (by kernel_rfl) rfl (fun s hs hd => by
              simp only [List.length_cons, List.length_nil] at hs
              have h47 : s = 0 ∨ s = 1 ∨ s = 2 ∨ s = 3 ∨ s = 4 ∨ s = 5 ∨ s = 6 ∨ s = 7 ∨ s = 8 ∨ s = 9 ∨ s = 10 ∨ s = 11 ∨ s = 12 ∨ s = 13 ∨ s = 14 ∨ s = 15 ∨ s = 16 ∨ s = 17 ∨ s = 18 ∨ s = 19 ∨ s = 20 ∨ s = 21 ∨ s = 22 ∨ s = 23 ∨ s = 24 ∨ s = 25 ∨ s = 26 ∨ s = 27 ∨ s = 28 ∨ s = 29 ∨ s = 30 ∨ s = 31 ∨ s = 32 ∨ s = 33 ∨ s = 34 ∨ s = 35 ∨ s = 36 ∨ s = 37 ∨ s = 38 ∨ s = 39 ∨ s = 40 ∨ s = 41 ∨ s = 42 ∨ s = 43 ∨ s = 44 ∨ s = 45 ∨ s = 46 := by omega
              rcases h47 with rfl | rfl | rfl | rfl | rfl | rfl | rfl | rfl | rfl | rfl | rfl | rfl | rfl | rfl | rfl | rfl | rfl | rfl | rfl | rfl | rfl | rfl | rfl | rfl | rfl | rfl | rfl | rfl | rfl | rfl | rfl | rfl | rfl | rfl | rfl | rfl | rfl | rfl | rfl | rfl | rfl | rfl | rfl | rfl | rfl | rfl | rfl <;> first | rfl | exact absurd hd (by decide)) (fun i hi ac wc hbc hr K hK => by
              have h11 : i = 0 ∨ i = 1 ∨ i = 2 ∨ i = 3 ∨ i = 4 ∨ i = 5 ∨ i = 6 ∨ i = 7 ∨ i = 8 ∨ i = 9 ∨ i = 10 := by omega
              rcases h11 with rfl | rfl | rfl | rfl | rfl | rfl | rfl | rfl | rfl | rfl | rfl
              · exact op_value rfl rfl (run_moveQ wc rfl (hr 5 (by decide))) (hK wc hbc)
              · exact op_value rfl rfl (run_moveQ wc rfl (hr 9 (by decide))) (hK wc hbc)
              · exact op_value rfl rfl (run_idxR wc rfl (hr 28 (by decide)) (hr 29 (by decide)) hkl) (hK wc hbc)
              · exact op_value rfl rfl (run_loadSB wc rfl (hr 30 (by decide)) (by rw [Nat.zero_add]; exact (hbc.cell (World.block_lt_of_cell? wr _ hcell)).trans hcell)) (hK wc hbc)
              · exact op_value rfl rfl (run_moveQ wc rfl (hr 0 (by decide))) (hK wc hbc)
              · exact op_value rfl rfl (run_moveQ wc rfl (hr 8 (by decide))) (hK wc hbc)
              · exact op_value rfl rfl (run_moveQ wc rfl (hr 8 (by decide))) (hK wc hbc)
              · exact op_value rfl rfl (run_moveQ wc rfl (hr 1 (by decide))) (hK wc hbc)
              · exact op_value rfl rfl (run_addI wc rfl (hr 34 (by decide)) (hr 35 (by decide)) hw) (hK wc hbc)
              · exact op_value rfl rfl (run_sliceQ (j := t + order) wc rfl (hr 32 (by decide)) (hr 33 (by decide)) ((hr 36 (by decide)).trans (by simp)) (by omega) hto' hnc (by omega)) (hK wc hbc)
              · refine op_call2 rfl rfl rfl hE (hr 31 (by decide)) (hr 37 (by decide)) (hss wc (hrow.below hbc) (hck.below hbc) (by unfold maxLen; omega) (by unfold maxLen; omega)) fun e w' hr' => ?_
                obtain ⟨rfl, hb'⟩ := hr'
                exact ⟨_, rfl, hK w' (bthen hbc hb')⟩)) ?_
          rintro e a' w' ⟨rfl, rfl, hbw⟩
          have hown7' := own_growN hown7 (grown_of_below hbw) (fun k e => by cases e)
          have hbel' : Below w1.heap.size w1 w' := hbel.trans (hbw.mono hbel.size)
          have HKL := hid hkl
          have hpk' : w'.cell? ⟨gP, oP + k * 2, none⟩ = some (.int .i64 (ptM h ((wordsM order).getD k [])).1) ∧ w'.cell? ⟨gP, oP + k * 2 + 1, none⟩ = some (.int .i64 (ptM h ((wordsM order).getD k [])).2) := ⟨(hbw.cell (World.block_lt_of_cell? wr _ hpk.1)).trans hpk.1, (hbw.cell (World.block_lt_of_cell? wr _ hpk.2)).trans hpk.2⟩
          have hrg := pts_range hpk'
          have HLS : Hid ((sentTo h b order j k).length ≤ 100000) := by
            unfold Hid sentTo sentM
            rw [List.length_append, List.length_map, List.length_map, List.length_range]
            have h1 := filter_bd (wordsM order) (chunkM b order j) k
            have h2 : m ≤ m * order := Nat.le_mul_of_pos_right m (by omega)
            have := HL.out; have := HN.out; omega
          dsimp only
          clear hown7 hbel hss hpk hpk' hcell hOi hrow hck
          cases same with
          | true =>
            have hwc : (wordsM order).getD k [] = chunkM b order j := of_decide_eq_true HSA.out.symm
            have HNX := hid (show sentTo h b order j k ++ [ptM h ((wordsM order).getD k [])] = sentTo h b order j (k + 1) by rw [HSU.out, if_pos hwc])
            clear hwc
            generalize ptM h ((wordsM order).getD k []) = pq at *
            go_wp2_with (first
              | (refine wpList_load_mid rfl 29 (.tmp 42) rfl gP (oP + k * 2) rfl [.int .i64 pq.1, .int .i64 pq.2] _ hrg Tryz.underlying29 rfl (by kernel_rfl) ?_)
              | (at_builtin; refine wpList_pushPt w1.heap.size w1 pq hown7' rfl _ _ rfl rfl rfl HLS.out hbel' hbel'.size ?_))
            intro v7 w2 hown7'' hbel''
            rw [HNX.out] at hown7''
            clear hown7' hbel'
            go_wp2
            go_roundw
            case rel =>
              have := HKL.out
              first | exact ⟨k + 1, by omega, by go_num, hown7'', hbel''⟩ | ((repeat apply Exists.intro); exact ⟨⟨k + 1, by omega, by go_num, hown7'', hbel''⟩, rfl⟩)
            case measure =>
              have := HKL.out
              simp [intOf]
              omega
          | false =>
            have hwc : ¬ (wordsM order).getD k [] = chunkM b order j := of_decide_eq_false HSA.out.symm
            have HNX := hid (show sentTo h b order j k = sentTo h b order j (k + 1) by rw [HSU.out, if_neg hwc, List.append_nil])
            rw [HNX.out] at hown7'
            clear hwc
            go_wp2
            go_roundw
            case rel =>
              have := HKL.out
              first | exact ⟨k + 1, by omega, by go_num, hown7', hbel'⟩ | ((repeat apply Exists.intro); exact ⟨⟨k + 1, by omega, by go_num, hown7', hbel'⟩, rfl⟩)
            case measure =>
              have := HKL.out
              simp [intOf]
              omega
        · have hkn : k = nL := by omega
          have hall : OwnP wr w1.heap.size u7 (sentM h b order (j + 1)) := by
            rw [← sentTo_all (h := h) HL.out HJM.out hbits, ← HNL.out, ← hkn]
            exact hown7
          clear hown7
          go_wp2
          go_roundw
          case rel =>
            have := HJM.out
            have := HTN.out
            first | exact ⟨j + 1, t + order, by omega, by unfold Hid; rw [Nat.add_mul, ← HT.out]; omega, hto, by go_num, hall, hbel⟩ | ((repeat apply Exists.intro); exact ⟨⟨j + 1, t + order, by omega, by unfold Hid; rw [Nat.add_mul, ← HT.out]; omega, hto, by go_num, hall, hbel⟩, rfl⟩)
          case measure =>
            have := HTN.out
            simp [intOf]
            omega
    · have hjm : j = m := by
        rcases Nat.lt_or_ge j m with h | h
        · have : (j + 1) * order ≤ m * order := Nat.mul_le_mul_right _ (by omega)
          rw [Nat.add_mul] at this
          have := HT.out; have := HL.out; have := HN.out; omega
        · omega
      subst hjm
      go_wp2
      go_ret
      exact ⟨_, rfl, own_monoN hown7 hb1.size, bthen hb1 hbel⟩
end Go.Proofs.YtplkmkbambbemadGreatDoor
namespace Go.Proofs.YtplkmkbambbemadGreatDoor
open Go.ChangeShapes Go.WideShapes Go.ChangeAt Go.RowKit
theorem Bits.all {zs : List Int} (h : Bits zs) : AllBits zs := fun x hx => by
  obtain ⟨k, hk, rfl⟩ := List.getElem_of_mem hx
  have := h k
  simpa [List.getD, hk] using this
theorem AllBits.append {a b : List Int} (ha : AllBits a) (hb : AllBits b) : AllBits (a ++ b) := fun x hx => by
  rcases List.mem_append.1 hx with h | h
  · exact ha x h
  · exact hb x h
theorem ksum_bitsL (zs : List Int) (k : Int) : Bits (ksum zs k) := fun j => by
  unfold ksum sumL
  by_cases h : j < kW k
  · have : (sumTo (kW k) (kP k) zs (kW k)).getD j 0 = b2i ((crc (kW k) (kP k) zs).testBit (kW k - 1 - j)) := by simp [sumTo, List.getD, h]
    rw [this]; exact b2i_bd _
  · have : (sumTo (kW k) (kP k) zs (kW k)).getD j 0 = 0 := by simp [sumTo, List.getD, h]
    rw [this]; omega
theorem trip_all (zs : List Int) (i : Nat) : AllBits (trip zs i) := fun x hx => by
  unfold trip at hx
  rcases List.mem_cons.1 hx with rfl | hx
  · omega
  rcases List.mem_cons.1 hx with rfl | hx
  · omega
  rcases List.mem_cons.1 hx with rfl | hx
  · omega
  cases hx
theorem codedTo_all (zs : List Int) : ∀ i, AllBits (codedTo zs i)
  | 0 => fun x hx => by cases hx
  | i + 1 => (codedTo_all zs i).append (trip_all zs i)
/-- Data's bits with their sum. -/
def sealM (z : List Int) : List Int := z ++ ksum z 3
theorem sealM_length (z : List Int) : (sealM z).length = z.length + 24 := by
  unfold sealM
  rw [List.length_append, show (ksum z 3).length = kW 3 from sumL_length _ _ _]
  rfl
theorem sealM_all {z : List Int} (h : AllBits z) : AllBits (sealM z) := h.append (ksum_bitsL z 3).all
/-- The coded bits of sealed bits, by settings. -/
def sizeL (S : Setg) : Nat := Nat.log2 S.size.toNat
def codeL (S : Setg) (z : List Int) : List Int := if S.code = 0 then codedTo z (z.length + 6) else turnM (sizeL S) (spreadM S.size.toNat (placesM S.size.toNat z.length) z z.length)
theorem size_pow {S : Setg} (h : powI S.size = true) : S.size = ((2 ^ sizeL S : Nat) : Int) ∧ S.size.toNat = 2 ^ sizeL S ∧ sizeL S ≤ 9 := by
  obtain ⟨m, hm, e⟩ := pow_of h
  have h2 : S.size.toNat = 2 ^ m := by rw [e]; exact Int.toNat_natCast _
  have h3 : sizeL S = m := by unfold sizeL; rw [h2]; exact Nat.log2_two_pow
  rw [h3]
  exact ⟨e, h2, hm⟩
theorem codeL_length {S : Setg} {z : List Int} {n : Nat} (hz : z.length = 8 * n + 24) (hc : S.code = 0 ∨ S.code = 1) (hp : S.code = 1 → powI S.size = true) : ((codeL S z).length : Int) = codedN S n := by
  unfold codeL codedN
  by_cases h0 : S.code = 0
  · rw [if_pos h0, if_pos h0, codedTo_length, hz]; omega
  · rw [if_neg h0, if_neg h0]
    obtain ⟨p1, p2, p3⟩ := size_pow (hp (by omega))
    rw [turn_length _ _ (by rw [spread_length, p2]), ← p1]
theorem codeL_all {S : Setg} {z : List Int} (h : AllBits z) : AllBits (codeL S z) := by
  unfold codeL
  split
  · exact codedTo_all _ _
  · exact turn_bits _ _ (spread_bits _ _ _ (fun j => h.at j) _)
/-- What is picked of bits; what a build covers and sends. -/
def takeM (b : List Int) (ps : List Nat) : List Int := ps.map fun p => b.getD p 0
theorem takeM_length (b : List Int) (ps : List Nat) : (takeM b ps).length = ps.length := by simp [takeM]
theorem takeM_bits {b : List Int} (h : AllBits b) (ps : List Nat) : AllBits (takeM b ps) := fun x hx => by
  obtain ⟨p, -, rfl⟩ := List.mem_map.1 hx
  exact h.at p
theorem addTo_all (xs ys : List Int) (k : Nat) : AllBits (addTo xs ys k) := fun x hx => by
  obtain ⟨i, -, rfl⟩ := List.mem_map.1 hx
  omega
def coverM (S : Setg) (xs : List Int) : List Int := addTo xs (noiseTo S.seed.toNat S.count.toNat) xs.length
def pickedK (S : Setg) (z : List Int) (v : Nat) : List Int := takeM (codeL S z) (pickTo (codeL S z).length v S.count.toNat)
def builtM (S : Setg) (s : ByteArray) (v : Nat) : List (Int × Int) := sentM (S.order.toNat / 2) (coverM S (pickedK S (sealM (unpackTo s (8 * s.size))) v)) S.order.toNat (S.count.toNat / S.order.toNat)
theorem pickTo_len (n v c : Nat) : (pickTo n v c).length = c := by simp [pickTo]
theorem pickedK_length (S : Setg) (z : List Int) (v : Nat) : (pickedK S z v).length = S.count.toNat := by unfold pickedK; rw [takeM_length, pickTo_len]
/-- What settings that may be are. -/
structure SetOk (S : Setg) (bytes : Int) : Prop where
  few : 0 ≤ bytes ∧ bytes ≤ 40
  code : S.code = 0 ∨ S.code = 1
  order : S.order = 2 ∨ S.order = 4 ∨ S.order = 6
  seed : 0 ≤ S.seed ∧ S.seed < 2147483648
  count : S.order ≤ S.count ∧ S.count ≤ 4096 ∧ S.count % S.order = 0
  size0 : S.code = 0 → S.size = 0
  size1 : S.code = 1 → powI S.size = true ∧ 8 * bytes + 24 ≤ S.size
theorem setOk_of {S : Setg} {bytes : Int} (h : setErr S bytes = 0) : SetOk S bytes := by
  unfold setErr at h
  by_cases c : (set1 S bytes && set2 S) = true
  · rw [if_pos c, Bool.and_eq_true] at *
    obtain ⟨c1, c2⟩ := c
    unfold set1 at c1
    unfold set2 at c2
    obtain ⟨a1, a2, a3, a4, a5, a6⟩ := of_decide_eq_true c1
    obtain ⟨b1, b2, b3, b4, b5⟩ := of_decide_eq_true c2
    by_cases d : S.code = 1 ∧ S.size < 8 * bytes + 24
    · rw [if_pos (decide_eq_true d)] at h; cases h
    · exact ⟨⟨a1, a2⟩, a3, a4, ⟨a5, a6⟩, ⟨b1, b2, b3⟩, b4, fun e => ⟨b5 e, by have : ¬ (S.size < 8 * bytes + 24) := fun g => d ⟨e, g⟩; omega⟩⟩
  · rw [if_neg c] at h; cases h
end Go.Proofs.YtplkmkbambbemadGreatDoor
namespace Go.Proofs.YtplkmkbambbemadGreatDoor
open Go.ChangeShapes Go.WideShapes Go.ChangeAt Go.RowKit
theorem kW3 : kW 3 = 24 := by unfold kW; simp
theorem isKind3 : isKind 3 = true := by unfold isKind; simp
theorem rsum3 (z M : List Int) (eM : M = ksum z 3) (a : Option Addr) (n c : Nat) (w : World) (ha : Rd .u8 w a z) (hb : Bits z) (hl : z.length = n) (hz : n ≤ 4096) :
    Calls Tryz.prog 75 #[.slice a n c, .int .i64 3] w fun e w' => ∃ b off cp, e = .returned (.slice (some ⟨b, off, none⟩) 24 cp) ∧ Rd .u8 w' (some ⟨b, off, none⟩) M ∧ Below w.heap.size w w' := by
  subst hl
  have h := rsum_any z 3 a c w ha hb hz isKind3
  rw [kW3, ← eM] at h
  exact h
end Go.Proofs.YtplkmkbambbemadGreatDoor
namespace Go.Proofs.YtplkmkbambbemadGreatDoor
open Go.ChangeShapes Go.WideShapes Go.ChangeAt Go.RowKit
def tailWp (P : Program) (ops : Array Oper) (Q : Exit → Act → World → Prop) : List Nat → Act → World → Prop
  | [], a, w => Q .normal a w
  | i :: is, a, w => wpOp P ops Q i (fun a' w' => tailWp P ops Q is a' w') a w
theorem lkp_mid {l0 : List Value} (su : Nat) (post : List (Nat × Value)) (x x' : Value) : ∀ (pre : List (Nat × Value)) (s : Nat), s ≠ su → lkp l0 (pre ++ (su, x) :: post) s = lkp l0 (pre ++ (su, x') :: post) s
  | [], s, h => by
    have h1 : Nat.beq su s = false := beq_ne (fun e => h e.symm)
    rw [List.nil_append, List.nil_append, lkp, lkp]
    simp only [h1]
  | q :: pre, s, h => by
    rw [List.cons_append, List.cons_append, lkp, lkp, lkp_mid su post x x' pre s h]
theorem getD_atQ {α : Type} (l : List α) (d : α) {i : Nat} (h : i < l.length) : l.getD i d = l[i] := by simp [List.getD, h]
theorem put_list (l : List Value) (s : Nat) (v : Value) : ({ tmps := l.toArray, defers := [] } : Act).put (some s) v = { tmps := (l.set s v).toArray, defers := [] } := by
  simp [Act.put]
set_option maxHeartbeats 1000000 in
theorem region_grow {P : Program} {ops : Array Oper} {id : Nat} {l0 : List Value} {Q : Exit → Act → World → Prop} (n k u : Nat) (pre : List (Nat × Value)) (su : Nat) (post : List (Nat × Value)) (reads : List (List Nat)) (par : List Nat) (U : Value → World → Prop) (wr : World) (hm : P.follows .mixedOrders = true) (hn : ops.size = n) (hkn : k < n)
    (hu : pre.length = u) (hdk : pre.length + 1 + post.length = k) (hnd : ((pre ++ (su, undef) :: post).map (·.1)).Nodup) (hdN : ((pre ++ (su, undef) :: post).all fun q => decide (q.1 < l0.length)) = true)
    (havail : ((List.range k).all fun i => (reads.getD i []).all fun s => (List.range k).all fun j => (((pre ++ (su, undef) :: post).getD j (0, undef)).1 != s) || waitsFor ops i j) = true) (htopo : ((List.range n).all fun i => laterNone ops i) = true)
    (hrN : ((List.range k).all fun i => (reads.getD i []).all fun s => decide (s < l0.length)) = true)
    (hpar : ((List.range k).all fun j => decide (j < par.getD j 0) && (decide (par.getD j 0 ≤ k) && waitsFor ops (par.getD j 0) j)) = true) (htail : ((List.range n).all fun i => decide (i ≤ k) || waitsFor ops i (i - 1)) = true)
    (hU : ∀ x w w', U x w → w.grownBy w' none → U x w')
    (hstep : ∀ i, i < k → ∀ (x : Value) (a : Act) (w : World), Below wr.heap.size wr w → (∀ s ∈ reads.getD i [], a.eval (.tmp s) = lkp l0 (pre ++ (su, x) :: post) s) → ∀ (Q : Exit → Act → World → Prop) (K : Act → World → Prop), (i = u → ∀ x' w', w.grownBy w' none → U x' w' → K (a.put (some su) x') w') → (i ≠ u → ∀ w', w.grownBy w' none → K (a.put (some ((pre ++ (su, undef) :: post).getD i (0, undef)).1) ((pre ++ (su, undef) :: post).getD i (0, undef)).2) w') → wpOp P ops Q i K a w)
    (hlast : ∀ x w, Below wr.heap.size wr w → U x w → tailWp P ops Q (List.range' k (n - k)) { tmps := (setAll l0 (pre ++ (su, x) :: post)).toArray, defers := [] } w) :
    (Code.region id ops true).wp P Q { tmps := l0.toArray, defers := [] } wr := by
  subst hu
  have key : ∀ x : Value, (pre ++ (su, x) :: post).map (·.1) = (pre ++ (su, undef) :: post).map (·.1) := fun x => by simp
  have hlen : ∀ x : Value, (pre ++ (su, x) :: post).length = k := fun x => by simp; omega
  have hkey : ∀ (x : Value) (j : Nat), ((pre ++ (su, x) :: post).getD j (0, undef)).1 = ((pre ++ (su, undef) :: post).getD j (0, undef)).1 := fun x j => by
    have e : ∀ l : List (Nat × Value), (l.getD j (0, undef)).1 = (l.map (·.1)).getD j 0 := fun l => by
      simp only [List.getD, List.getElem?_map]
      cases l[j]? <;> rfl
    rw [e, e, key x]
  have hmid : ∀ x : Value, (pre ++ (su, x) :: post).getD pre.length (0, undef) = (su, x) := fun x => by simp [List.getD]
  have hoth : ∀ (x : Value) (j : Nat), j ≠ pre.length → (pre ++ (su, x) :: post).getD j (0, undef) = (pre ++ (su, undef) :: post).getD j (0, undef) := fun x j hj => by
    simp only [List.getD]
    rcases Nat.lt_or_ge j pre.length with h | h
    · rw [List.getElem?_append_left h, List.getElem?_append_left h]
    · rw [List.getElem?_append_right h, List.getElem?_append_right h]
      obtain ⟨m, hm'⟩ : ∃ m, j - pre.length = m + 1 := ⟨j - pre.length - 1, by omega⟩
      rw [hm', List.getElem?_cons_succ, List.getElem?_cons_succ]
  have hdN' : ∀ x : Value, ∀ q ∈ pre ++ (su, x) :: post, q.1 < l0.length := fun x q hq => by
    have h1 : q.1 ∈ (pre ++ (su, x) :: post).map (·.1) := List.mem_map_of_mem hq
    rw [key x] at h1
    obtain ⟨p, hp, e⟩ := List.mem_map.1 h1
    rw [← e]
    exact of_decide_eq_true (List.all_eq_true.1 hdN p hp)
  have hlt : ∀ (x : Value) (j : Nat), j < k → ((pre ++ (su, x) :: post).getD j (0, undef)).1 < l0.length := fun x j hj => by
    have e : (pre ++ (su, x) :: post).getD j (0, undef) = (pre ++ (su, x) :: post)[j]'(by rw [hlen]; exact hj) := getD_atQ _ _ (by rw [hlen]; exact hj)
    rw [e]
    exact hdN' x _ (List.getElem_mem _)
  have hnd' : ∀ x : Value, ((pre ++ (su, x) :: post).map (·.1)).Nodup := fun x => by rw [key x]; exact hnd
  have hP : ∀ j, j < k → j < par.getD j 0 ∧ par.getD j 0 ≤ k ∧ waitsFor ops (par.getD j 0) j = true := fun j hj => by
    have := List.all_eq_true.1 hpar j (List.mem_range.2 hj)
    rw [Bool.and_eq_true, Bool.and_eq_true, decide_eq_true_eq, decide_eq_true_eq] at this
    exact this
  have hT : ∀ i, i < n → k < i → waitsFor ops i (i - 1) = true := fun i hi hk => by
    have := List.all_eq_true.1 htail i (List.mem_range.2 hi)
    rw [Bool.or_eq_true, decide_eq_true_eq] at this
    rcases this with h | h
    · omega
    · exact h
  have hchain : ∀ (L : Nat → Bool), (∀ i j, L i = true → waitsFor ops i j = true → L j = true) → (∀ j, waitsFor ops k j = true → L j = true) → ∀ m j, j < k → k - j ≤ m → L j = true := by
    intro L hcl hk0 m
    induction m with
    | zero => intro j hj hm'; omega
    | succ m ih =>
      intro j hj hm'
      obtain ⟨p1, p2, p3⟩ := hP j hj
      by_cases hpk : par.getD j 0 = k
      · rw [hpk] at p3; exact hk0 j p3
      · exact hcl _ _ (ih _ (by omega) (by omega)) p3
  refine region_inv n (fun L a w => ((∀ j, k ≤ j → L j = false) ∧ (∀ i j, L i = true → waitsFor ops i j = true → L j = true) ∧ ∃ x, (L pre.length = true → U x w) ∧ a.tmps.size = l0.length ∧ a.defers = [] ∧ Below wr.heap.size wr w ∧ ∀ s, s < l0.length → (∀ i, i < k → ((pre ++ (su, undef) :: post).getD i (0, undef)).1 = s → L i = true) → a.eval (.tmp s) = lkp l0 (pre ++ (su, x) :: post) s) ∨ ∃ t, k ≤ t ∧ t ≤ n ∧ (∀ j, j < t → L j = true) ∧ (∀ j, t ≤ j → L j = false) ∧ tailWp P ops Q (List.range' t (n - t)) a w) _ wr hm hn htopo ?_ ?_ ?_
  · refine .inl ⟨fun _ _ => rfl, fun i j h => (by cases h), undef, fun h => (by cases h), by simp, rfl, (Below.refl _ wr).drew, fun s hs h => ?_⟩
    rw [lkp_none _ s (fun q hq e => ?_)]
    · simp [Act.eval, List.getD]
    · obtain ⟨i, hi, rfl⟩ := List.getElem_of_mem hq
      rw [hlen] at hi
      have := h i hi (by rw [← e, getD_atQ _ _ (by rw [hlen]; exact hi)])
      cases this
  · intro L a w i hI hi hLi hw
    rcases hI with ⟨hA1, hcl, x, hUx, hsz, hdf, hbel, hev⟩ | ⟨t, ht1, ht2, hB1, hB2, hB3⟩
    · rcases Nat.lt_or_ge i k with hik | hik
      · have hcl' : ∀ p j, (if p = i then true else L p) = true → waitsFor ops p j = true → (if j = i then true else L j) = true := fun p j hp hpj => by
          by_cases hji : j = i
          · rw [if_pos hji]
          · rw [if_neg hji]
            by_cases hpi : p = i
            · subst hpi; exact hw j hpj
            · rw [if_neg hpi] at hp; exact hcl p j hp hpj
        have hA1' : ∀ j, k ≤ j → (if j = i then true else L j) = false := fun j hj => by
          rw [if_neg (by omega)]; exact hA1 j hj
        refine hstep i hik x a w hbel (fun s hs => hev s ?_ (fun j hj e => hw j ?_)) Q _ (fun hiu x' w' hg hu => .inl ⟨hA1', hcl', x', fun _ => hu, by simp [Act.put, hsz], hdf, hbel.grown hg hbel.size (fun g e => by cases e), fun s hs h => ?_⟩) (fun hiu w' hg => .inl ⟨hA1', hcl', x, fun hL => hU x w w' (hUx ?_) hg, by simp [Act.put, hsz], hdf, hbel.grown hg hbel.size (fun g e => by cases e), fun s hs h => ?_⟩)
        · exact of_decide_eq_true (List.all_eq_true.1 (List.all_eq_true.1 hrN i (List.mem_range.2 hik)) s hs)
        · have := List.all_eq_true.1 (List.all_eq_true.1 (List.all_eq_true.1 havail i (List.mem_range.2 hik)) s hs) j (List.mem_range.2 hj)
          rw [e] at this
          simpa using this
        · by_cases e : su = s
          · subst e
            rw [Act.eval_put_same a _ _ (by rw [hsz]; exact hs)]
            have := lkp_at l0 _ (hnd' x') pre.length (by rw [hlen]; omega)
            rw [hmid] at this
            exact this.symm
          · rw [Act.eval_put_ne a _ _ _ e, lkp_mid su post x' x pre s (fun h => e h.symm)]
            refine hev s hs (fun j hj ej => ?_)
            have h3 : (if j = i then true else L j) = true := h j hj ej
            by_cases hji : j = i
            · subst hji; subst hiu
              rw [hmid] at ej
              exact absurd ej e
            · rw [if_neg hji] at h3; exact h3
        · have h3 : (if pre.length = i then true else L pre.length) = true := hL
          rw [if_neg (fun h => hiu h.symm)] at h3
          exact h3
        · by_cases e : ((pre ++ (su, undef) :: post).getD i (0, undef)).1 = s
          · subst e
            rw [Act.eval_put_same a _ _ (by rw [hsz]; exact hs), ← hoth x i hiu]
            exact (lkp_at l0 _ (hnd' x) i (by rw [hlen]; exact hik)).symm
          · rw [Act.eval_put_ne a _ _ _ e]
            refine hev s hs (fun j hj ej => ?_)
            have h3 : (if j = i then true else L j) = true := h j hj ej
            by_cases hji : j = i
            · subst hji; exact absurd ej e
            · rw [if_neg hji] at h3; exact h3
      · have hik' : i = k := by
          apply Nat.le_antisymm _ hik
          apply Nat.le_of_not_lt
          intro hc
          have h1 := hw _ (hT i hi hc)
          rw [hA1 (i - 1) (by omega)] at h1
          cases h1
        subst hik'
        have hall : ∀ j, j < i → L j = true := fun j hj => hchain L hcl hw _ j hj (Nat.le_refl _)
        have ha : a = { tmps := (setAll l0 (pre ++ (su, x) :: post)).toArray, defers := [] } := act_known a _ (by rw [setAll_length]; exact hsz) hdf (fun s hs => by
          rw [setAll_length] at hs
          rw [setAll_lkp _ l0 s (hnd' x) (hdN' x)]
          exact hev s hs (fun j hj _ => hall j hj))
        have h1 := hlast x w hbel (hUx (hall _ (by omega)))
        obtain ⟨m, hm'⟩ : ∃ m, n - i = m + 1 := ⟨n - i - 1, by omega⟩
        rw [hm', List.range'_succ, tailWp, ← ha] at h1
        refine wpOp_mono (fun a' w' h => .inr ⟨i + 1, by omega, by omega, fun j hj => ?_, fun j hj => ?_, ?_⟩) h1
        · show (if j = i then true else L j) = true
          by_cases hji : j = i
          · rw [if_pos hji]
          · rw [if_neg hji]; exact hall j (by omega)
        · show (if j = i then true else L j) = false
          rw [if_neg (by omega)]; exact hA1 j (by omega)
        · rw [show n - (i + 1) = m by omega]; exact h
    · have hti : t ≤ i := by
        apply Nat.le_of_not_lt
        intro hc
        rw [hB1 i hc] at hLi
        cases hLi
      have hti' : i = t := by
        apply Nat.le_antisymm _ hti
        apply Nat.le_of_not_lt
        intro hc
        have h1 := hw _ (hT i hi (by omega))
        rw [hB2 (i - 1) (by omega)] at h1
        cases h1
      subst hti'
      obtain ⟨m, hm'⟩ : ∃ m, n - i = m + 1 := ⟨n - i - 1, by omega⟩
      rw [hm', List.range'_succ, tailWp] at hB3
      refine wpOp_mono (fun a' w' h => .inr ⟨i + 1, by omega, by omega, fun j hj => ?_, fun j hj => ?_, ?_⟩) hB3
      · show (if j = i then true else L j) = true
        by_cases hji : j = i
        · rw [if_pos hji]
        · rw [if_neg hji]; exact hB1 j (by omega)
      · show (if j = i then true else L j) = false
        rw [if_neg (by omega)]; exact hB2 j (by omega)
      · rw [show n - (i + 1) = m by omega]; exact h
  · rintro L a w hL (⟨hA1, _⟩ | ⟨t, ht1, ht2, hB1, hB2, hB3⟩)
    · have := hL k hkn
      rw [hA1 k (Nat.le_refl _)] at this
      cases this
    · have htn : t = n := by
        apply Nat.le_antisymm ht2
        apply Nat.le_of_not_lt
        intro hc
        have := hL t hc
        rw [hB2 t (Nat.le_refl _)] at this
        cases this
      subst htn
      rw [Nat.sub_self] at hB3
      exact hB3
theorem eval_setAll {l0 : List Value} {t : List (Nat × Value)} (s : Nat) (hn : (t.map (·.1)).Nodup) (hl : (t.all fun q => decide (q.1 < l0.length)) = true) : ({ tmps := (setAll l0 t).toArray, defers := [] } : Act).eval (.tmp s) = lkp l0 t s := by
  rw [← setAll_lkp t l0 s hn (fun q hq => of_decide_eq_true (List.all_eq_true.1 hl q hq))]
  simp [Act.eval, List.getD]
end Go.Proofs.YtplkmkbambbemadGreatDoor
