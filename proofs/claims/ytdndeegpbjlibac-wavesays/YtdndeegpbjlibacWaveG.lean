import Derived.Test.YtdndeegpbjlibacWaveF
import Derived.Test.YtdndeegpbjlibacSameB
namespace Go.Proofs.Ytdndeegpbjlibac
open Go.ChangeShapes Go.WideShapes Go.ChangeAt Go.RowKit Go.Shelf

/-! THE DOCUMENT'S Sent. -/

def ptM (h : Nat) (l : List Int) : Int × Int := (sideR l 0 h, sideR l 1 h)
def chunkM (b : List Int) (order j : Nat) : List Int := (b.drop (j * order)).take order
def sentM (h : Nat) (b : List Int) (order n : Nat) : List (Int × Int) := (List.range n).map fun j => ptM h (chunkM b order j)
def sentTo (h : Nat) (b : List Int) (order j k : Nat) : List (Int × Int) := sentM h b order j ++ (((wordsM order).take k).filter fun l => decide (l = chunkM b order j)).map (ptM h)
theorem chunkM_length {b : List Int} {order j m : Nat} (hb : b.length = m * order) (hj : j < m) : (chunkM b order j).length = order := by
  unfold chunkM
  rw [List.length_take, List.length_drop, hb]
  have : (j + 1) * order ≤ m * order := Nat.mul_le_mul_right _ (by omega)
  rw [Nat.add_mul] at this
  omega
theorem sentTo_all {h : Nat} {b : List Int} {order j m : Nat} (hb : b.length = m * order) (hj : j < m) (hbits : ∀ x ∈ b, x = 0 ∨ x = 1) : sentTo h b order j (2 ^ order) = sentM h b order (j + 1) := by
  unfold sentTo
  rw [List.take_of_length_le (by rw [wordsM_length]; exact Nat.le_refl _), words_pick (chunkM_length hb hj) (fun x hx => hbits x (List.mem_of_mem_drop (List.mem_of_mem_take hx)))]
  simp [sentM, List.range_succ]
theorem sentTo_succ {h : Nat} {b : List Int} {order j k : Nat} (hk : k < 2 ^ order) : sentTo h b order j (k + 1) = sentTo h b order j k ++ (if (wordsM order).getD k [] = chunkM b order j then [ptM h ((wordsM order).getD k [])] else []) := by
  have hl : k < (wordsM order).length := by rw [wordsM_length]; exact hk
  unfold sentTo
  rw [List.take_succ_eq_append_getElem hl, List.filter_append, List.map_append, List.append_assoc]
  congr 2
  have e : (wordsM order).getD k [] = (wordsM order)[k] := by simp [List.getD, hl]
  rw [e]
  by_cases hc : (wordsM order)[k] = chunkM b order j
  · rw [if_pos hc]; simp [hc]
  · rw [if_neg hc]; simp [hc]
theorem filter_bd (LL : List (List Int)) (c : List Int) : ∀ k, (((LL.take k).filter fun l => decide (l = c))).length ≤ k := fun k => by
  have h1 := List.length_filter_le (fun l => decide (l = c)) (LL.take k)
  rw [List.length_take] at h1
  omega
/-- Where a chunk is read. -/
theorem chunk_rd {w : World} {g o : Nat} {b : List Int} {order j m : Nat} (hr : Rd .u8 w (some ⟨g, o, none⟩) b) (hb : b.length = m * order) (hj : j < m) (h1 : 1 ≤ order) : Rd .u8 w (some ⟨g, o + j * order, none⟩) (chunkM b order j) := by
  intro _
  refine ⟨g, o + j * order, rfl, fun t ht => ?_⟩
  have hl := chunkM_length hb hj
  have hne : b ≠ [] := by
    rintro rfl
    simp at hb
    have : 1 ≤ m * order := Nat.mul_pos (by omega) h1
    omega
  obtain ⟨g', o', e, hc⟩ := hr hne
  simp at e
  obtain ⟨rfl, rfl⟩ := e
  have hlt : j * order + t < b.length := by
    have : (j + 1) * order ≤ m * order := Nat.mul_le_mul_right _ (by omega)
    rw [Nat.add_mul] at this
    omega
  have := hc (j * order + t) hlt
  rw [← Nat.add_assoc] at this
  rw [this]
  congr 2
  unfold chunkM
  simp only [List.getD, List.getElem?_take, List.getElem?_drop]
  rw [if_pos (by omega)]

theorem run_sliceQ {ρ : Operand → Value} (w : World) {o : Oper} {x y z : Operand} {g s n c i j : Nat} (ho : o.op = .slice 22 x (some y) (some z) none) (h : ρ x = .slice (some ⟨g, s, none⟩) n c) (h' : ρ y = .int .i64 i) (h'' : ρ z = .int .i64 j) (hij : i ≤ j) (hjn : j ≤ n) (hnc : n ≤ c) (hi : i < c) : (execOp ρ o).run Try.prog w = .ok (.value (.slice (some ⟨g, s + i, none⟩) (j - i) (c - i))) w := by
  unfold execOp
  simp only [ho]
  simp [go_sem, h, h', h'', Try.underlying22]
  rw [if_pos (by omega), if_pos hij, if_neg (by omega)]

theorem own_monoN {w : World} {B B' : Nat} {e : TypeId} {z : Nat} {v : Value} {n : Nat} {xs : List Value} (h : w.ownsRow B e z v n xs) (hB : B' ≤ B) : w.ownsRow B' e z v n xs := by
  refine ⟨h.1, ?_⟩
  rcases h.2 with h' | ⟨g, cap, cur, h1, h2, h3⟩
  · exact .inl h'
  · exact .inr ⟨g, cap, cur, h1, by omega, h3⟩
theorem wpList_pushPt {ops : Array Oper} {rest : List Oper} {o : Oper} {a : Act} {Q : Exit → Act → World → Prop} {w0 : World} {v : Value} {ps : List (Int × Int)} (B : Nat) (w00 : World) (p : Int × Int) (hown : OwnP w0 B v ps) (hgd : o.guard = none) (s x : Operand)
    (ho : o.op = .call { callee := .builtin .append, args := #[s, x], argTypes := #[23, 23] }) (hs : a.eval s = v)
    (hx : a.eval x = .slice (some ⟨w0.heap.size, 0, none⟩) 1 1) (hlen : ps.length ≤ 100000) (hbel : Below B w00 w0) (hB : B ≤ w0.heap.size)
    (h : ∀ v' w', OwnP w' B v' (ps ++ [p]) → Below B w00 w' → wpList Try.prog ops Q rest (a.put o.dst v') w') : wpList Try.prog ops Q (o :: rest) a (w0.alloc (.cells #[.int .i64 p.1, .int .i64 p.2] 47)) := by
  have hg0 := World.grownBy_alloc w0 (.cells #[.int .i64 p.1, .int .i64 p.2] 47) none
  obtain ⟨v', w', hrun, h1, h2, _⟩ := run_pushP (ρ := a.eval) (p := p) (w0.alloc (.cells #[.int .i64 p.1, .int .i64 p.2] 47)) ho hs hx (own_growN hown hg0 (fun k e => by cases e)) (by simp) (by simp) hlen (by simp; omega)
  refine wpList_plain hgd fun K hK => ?_
  unfold Oper.wp
  rw [hrun]
  exact hK _ _ (h v' w' h1 ((hbel.grown hg0 hB (fun k e => by cases e)).grown h2 (by simp; omega) (fun g e => (World.ownsRow.lt hown g e).1)))

set_option maxRecDepth 100000 in
set_option maxHeartbeats 2000000 in
theorem sent_any (order h m : Nat) (b : List Int) (a : Option Addr) (n c : Nat) (w : World) (ho : order = 2 * h) (h1 : 1 ≤ h) (hh : h ≤ 3) (hb : Rd .u8 w a b) (hn : b.length = n) (hl : b.length = m * order) (hnc : n ≤ c) (hn4 : n ≤ 4096) (hbits : ∀ x ∈ b, x = 0 ∨ x = 1) :
    Calls Try.prog 8 #[.slice a n c, .int .i64 order] w fun e w' => ∃ v, e = .returned v ∧ OwnP w' w.heap.size v (sentM h b order m) ∧ Below w.heap.size w w' := by
  have ho6 : order ≤ 6 := by omega
  have ho1 : 2 ≤ order := by omega
  have HN := hid hn
  have HL := hid hl
  have hcon := constellation_any order h w ho h1 hh
  clear hn hl ho
  go_enter Try.func8, Try.ntmps8
  go_wp2_with fail
  refine hcon.mono ?_
  rintro e w1 ⟨v4, v8, vs4, rfl, hown4, hrow4, hown8, hb1⟩
  have hl4 : vs4.length = 2 ^ order := by rw [hrow4.1, wordsM_length]
  have hl8 : ((wordsM order).map fun l => (sideR l 0 h, sideR l 1 h)).length = 2 ^ order := by rw [List.length_map, wordsM_length]
  have hp1 : 1 ≤ 2 ^ order := Nat.one_le_two_pow
  have hp6 : 2 ^ order ≤ 64 := Nat.le_trans (Nat.pow_le_pow_right (by decide) ho6) (by decide)
  obtain ⟨gL, cL, e4, hc4, hm4, hg4⟩ := hown4.shape1 (by omega)
  obtain ⟨aP, cP, e8, hc8, hm8⟩ := hown8.shape
  subst e4
  subst e8
  have hptsP := hown8.pts
  rw [hl4] at hown4 hc4
  rw [hl8] at hc8
  obtain ⟨nL, enL⟩ : ∃ nL, nL = 2 ^ order := ⟨_, rfl⟩
  rw [← enL] at hl4 hl8 hp1 hp6 hown4 hc4 hc8
  rw [hl4, hl8]
  have HNL := hid enL
  unfold maxLen at hm4 hm8
  clear enL hown8
  go_wp2
  go_loopw [7, 8] (fun v q wr => ∃ j t : Nat, j ≤ m ∧ Hid (t = j * order) ∧ t ≤ n ∧ q = .int .i64 t ∧ OwnP wr w1.heap.size v (sentM h b order j) ∧ Below w1.heap.size w1 wr) (fun _ q _ => n - (intOf q).toNat)
  case atStart => exact ⟨0, 0, Nat.zero_le _, by unfold Hid; omega, Nat.zero_le _, rfl, World.ownsRow_nil _ _ _ _, Below.refl _ _⟩
  case round =>
    obtain ⟨j, t, hj, HT, ht, rfl, hown7, hbel⟩ := hrel
    by_cases hlt : t < n
    · have hjm : j < m := by
        rcases Nat.lt_or_ge j m with h | h
        · exact h
        · have : m * order ≤ j * order := Nat.mul_le_mul_right _ h
          have := HT.out; have := HL.out; have := HN.out; omega
      have hto : t + order ≤ n := by
        have : (j + 1) * order ≤ m * order := Nat.mul_le_mul_right _ (by omega)
        rw [Nat.add_mul] at this
        have := HT.out; have := HL.out; have := HN.out; omega
      have HJM := hid hjm
      have HTN := hid hlt
      go_wp2
      go_loopw [7, 9] (fun v q ws => ∃ k : Nat, k ≤ nL ∧ q = .int .i64 k ∧ OwnP ws w1.heap.size v (sentTo h b order j k) ∧ Below w1.heap.size w1 ws) (fun _ q _ => nL - (intOf q).toNat)
      case atStart => exact ⟨0, Nat.zero_le _, rfl, by simpa [sentTo] using hown7, hbel⟩
      case round =>
        clear hown7 hbel
        obtain ⟨k, hk, rfl, hown7, hbel⟩ := hrel
        by_cases hkl : k < nL
        · have hkl' : k < (wordsM order).length := by rw [wordsM_length]; have := HNL.out; omega
          have hkv : k < vs4.length := by omega
          have hcell := (hown4.below hbel).cell hkv
          have hOi := (hrow4.below hbel).2 k hkl'
          obtain ⟨ai, ci, ei, -, hci, hmi⟩ := hOi.shape
          have hwl : ((wordsM order).getD k []).length = order := words_len (words_at (by rw [← HNL.out]; exact hkl))
          rw [ei] at hcell hOi
          have hrow := hOi.rd
          have hbne : b ≠ [] := by
            rintro rfl
            have := HN.out
            simp at this
            omega
          have hbr := (hb.below hb1).below hbel
          obtain ⟨gb, ob, rfl, -⟩ := hbr hbne
          have hck := chunk_rd hbr HL.out hjm (by omega)
          rw [← HT.out] at hck
          have hcl := chunkM_length HL.out hjm
          have hmix : Try.prog.follows .mixedOrders = true := by kernel_rfl
          have hE : Enters Try.prog 14 := enters_of Try.func14 (by kernel_rfl) rfl
          have hpt := (hptsP.below hbel).at (i := k) (by rw [hl8]; exact hkl)
          obtain ⟨gP, oP, rfl, hcp⟩ := hpt
          have hpk := hcp k (by rw [hl8]; exact hkl)
          have epk : ((wordsM order).map fun l => (sideR l 0 h, sideR l 1 h)).getD k (0, 0) = ptM h ((wordsM order).getD k []) := by
            simp [List.getD, hkl', ptM]
          rw [epk] at hpk
          have hss := fun w => same_bits ((wordsM order).getD k []) (chunkM b order j) ai (some ⟨gb, ob + t, none⟩) ci (c - t) w
          have hce : (chunkM b order j).length = t + order - t := by rw [hcl]; omega
          rw [hce] at hss
          have HSU := hid (sentTo_succ (h := h) (b := b) (order := order) (j := j) (k := k) (by rw [← HNL.out]; exact hkl))
          obtain ⟨same, esame⟩ : ∃ same, same = decide ((wordsM order).getD k [] = chunkM b order j) := ⟨_, rfl⟩
          rw [← esame] at hss
          have HSA := hid esame
          have hw : IntKind.i64.wrap ((t : Int) + (order : Int)) = (t : Int) + (order : Int) := by rw [IntKind.wrap_i64]; omega
          have hto' : t + order ≤ n := hto
          clear hcp epk esame
          go_upto_region 9 with fail
          refine wp_mono (region_known 11 [28, 29, 30, 31, 32, 33, 34, 35, 36, 37, 38] [[5], [9], [28, 29], [30], [0], [8], [8], [1], [34, 35], [32, 33, 36], [31, 37]] [.slice (some ⟨gb, ob, none⟩) n c, .int .i64 order, undef, undef, .slice none 0 0, .slice (some ⟨gL, 0, none⟩) nL cL, .slice (some ⟨gP, oP, none⟩) nL cP, u7, .int .i64 t, .int .i64 k, .tuple #[.slice (some ⟨gL, 0, none⟩) nL cL, .slice (some ⟨gP, oP, none⟩) nL cP], .int .i64 order, .tuple #[.slice (some ⟨gL, 0, none⟩) nL cL, .slice (some ⟨gP, oP, none⟩) nL cP], .slice (some ⟨gL, 0, none⟩) nL cL, .slice (some ⟨gP, oP, none⟩) nL cP, .int .i64 t, .slice (some ⟨gb, ob, none⟩) n c, .int .i64 n, .bool true, u19, u20, u21, .int .i64 k, .slice (some ⟨gL, 0, none⟩) nL cL, .int .i64 nL, .bool true, u26, u27, .slice (some ⟨gL, 0, none⟩) nL cL, .int .i64 k, .pointer (some ⟨gL, 0 + k, none⟩), .slice ai ((wordsM order).getD k []).length ci, .slice (some ⟨gb, ob, none⟩) n c, .int .i64 t, .int .i64 t, .int .i64 order, .int .i64 ((t : Int) + (order : Int)), .slice (some ⟨gb, ob + t, none⟩) (t + order - t) (c - t), .bool same, u39, u40, u41, u42, u43, u44, u45, undef] _ wr hmix rfl rfl rfl rfl (by kernel_rfl) (by kernel_rfl) rfl (fun s hs hd => by
              simp only [List.length_cons, List.length_nil] at hs
              have h47 : s = 0 ∨ s = 1 ∨ s = 2 ∨ s = 3 ∨ s = 4 ∨ s = 5 ∨ s = 6 ∨ s = 7 ∨ s = 8 ∨ s = 9 ∨ s = 10 ∨ s = 11 ∨ s = 12 ∨ s = 13 ∨ s = 14 ∨ s = 15 ∨ s = 16 ∨ s = 17 ∨ s = 18 ∨ s = 19 ∨ s = 20 ∨ s = 21 ∨ s = 22 ∨ s = 23 ∨ s = 24 ∨ s = 25 ∨ s = 26 ∨ s = 27 ∨ s = 28 ∨ s = 29 ∨ s = 30 ∨ s = 31 ∨ s = 32 ∨ s = 33 ∨ s = 34 ∨ s = 35 ∨ s = 36 ∨ s = 37 ∨ s = 38 ∨ s = 39 ∨ s = 40 ∨ s = 41 ∨ s = 42 ∨ s = 43 ∨ s = 44 ∨ s = 45 ∨ s = 46 := by omega
              rcases h47 with rfl | rfl | rfl | rfl | rfl | rfl | rfl | rfl | rfl | rfl | rfl | rfl | rfl | rfl | rfl | rfl | rfl | rfl | rfl | rfl | rfl | rfl | rfl | rfl | rfl | rfl | rfl | rfl | rfl | rfl | rfl | rfl | rfl | rfl | rfl | rfl | rfl | rfl | rfl | rfl | rfl | rfl | rfl | rfl | rfl | rfl | rfl <;> first | rfl | exact absurd hd (by decide)) (fun i hi ac wc hbc hr K hK => by
              have h11 : i = 0 ∨ i = 1 ∨ i = 2 ∨ i = 3 ∨ i = 4 ∨ i = 5 ∨ i = 6 ∨ i = 7 ∨ i = 8 ∨ i = 9 ∨ i = 10 := by omega
              rcases h11 with rfl | rfl | rfl | rfl | rfl | rfl | rfl | rfl | rfl | rfl | rfl
              · exact op_value rfl rfl (run_moveQ wc rfl (hr 5 (by decide))) (hK wc hbc)
              · exact op_value rfl rfl (run_moveQ wc rfl (hr 9 (by decide))) (hK wc hbc)
              · exact op_value rfl rfl (run_idxR wc rfl (hr 28 (by decide)) (hr 29 (by decide)) hkl) (hK wc hbc)
              · exact op_value rfl rfl (run_loadSB wc rfl (hr 30 (by decide)) (by rw [Nat.zero_add]; exact (hbc.cell (World.block_lt_of_cell? wr _ hcell)).trans hcell)) (hK wc hbc)
              · exact op_value rfl rfl (run_moveQ wc rfl (hr 0 (by decide))) (hK wc hbc)
              · exact op_value rfl rfl (run_moveQ wc rfl (hr 8 (by decide))) (hK wc hbc)
              · exact op_value rfl rfl (run_moveQ wc rfl (hr 8 (by decide))) (hK wc hbc)
              · exact op_value rfl rfl (run_moveQ wc rfl (hr 1 (by decide))) (hK wc hbc)
              · exact op_value rfl rfl (run_addI wc rfl (hr 34 (by decide)) (hr 35 (by decide)) hw) (hK wc hbc)
              · exact op_value rfl rfl (run_sliceQ (j := t + order) wc rfl (hr 32 (by decide)) (hr 33 (by decide)) ((hr 36 (by decide)).trans (by simp)) (by omega) hto' hnc (by omega)) (hK wc hbc)
              · refine op_call2 rfl rfl rfl hE (hr 31 (by decide)) (hr 37 (by decide)) (hss wc (hrow.below hbc) (hck.below hbc) (by unfold maxLen; omega) (by unfold maxLen; omega)) fun e w' hr' => ?_
                obtain ⟨rfl, hb'⟩ := hr'
                exact ⟨_, rfl, hK w' (bthen hbc hb')⟩)) ?_
          rintro e a' w' ⟨rfl, rfl, hbw⟩
          have hown7' := own_growN hown7 (grown_of_below hbw) (fun k e => by cases e)
          have hbel' : Below w1.heap.size w1 w' := hbel.trans (hbw.mono hbel.size)
          have HKL := hid hkl
          have hpk' : w'.cell? ⟨gP, oP + k * 2, none⟩ = some (.int .i64 (ptM h ((wordsM order).getD k [])).1) ∧ w'.cell? ⟨gP, oP + k * 2 + 1, none⟩ = some (.int .i64 (ptM h ((wordsM order).getD k [])).2) := ⟨(hbw.cell (World.block_lt_of_cell? wr _ hpk.1)).trans hpk.1, (hbw.cell (World.block_lt_of_cell? wr _ hpk.2)).trans hpk.2⟩
          have hrg := pts_range hpk'
          have HLS : Hid ((sentTo h b order j k).length ≤ 100000) := by
            unfold Hid sentTo sentM
            rw [List.length_append, List.length_map, List.length_map, List.length_range]
            have h1 := filter_bd (wordsM order) (chunkM b order j) k
            have h2 : m ≤ m * order := Nat.le_mul_of_pos_right m (by omega)
            have := HL.out; have := HN.out; omega
          dsimp only
          clear hown7 hbel hss hpk hpk' hcell hOi hrow hck
          cases same with
          | true =>
            have hwc : (wordsM order).getD k [] = chunkM b order j := of_decide_eq_true HSA.out.symm
            have HNX := hid (show sentTo h b order j k ++ [ptM h ((wordsM order).getD k [])] = sentTo h b order j (k + 1) by rw [HSU.out, if_pos hwc])
            clear hwc
            generalize ptM h ((wordsM order).getD k []) = pq at *
            go_wp2_with (first
              | (refine wpList_load_mid rfl 47 (.tmp 42) rfl gP (oP + k * 2) rfl [.int .i64 pq.1, .int .i64 pq.2] _ hrg Try.underlying47 rfl (by kernel_rfl) ?_)
              | (at_builtin; refine wpList_pushPt w1.heap.size w1 pq hown7' rfl _ _ rfl rfl rfl HLS.out hbel' hbel'.size ?_))
            intro v7 w2 hown7'' hbel''
            rw [HNX.out] at hown7''
            clear hown7' hbel'
            go_wp2
            go_roundw
            case rel =>
              have := HKL.out
              first | exact ⟨k + 1, by omega, by go_num, hown7'', hbel''⟩ | ((repeat apply Exists.intro); exact ⟨⟨k + 1, by omega, by go_num, hown7'', hbel''⟩, rfl⟩)
            case measure =>
              have := HKL.out
              simp [intOf]
              omega
          | false =>
            have hwc : ¬ (wordsM order).getD k [] = chunkM b order j := of_decide_eq_false HSA.out.symm
            have HNX := hid (show sentTo h b order j k = sentTo h b order j (k + 1) by rw [HSU.out, if_neg hwc, List.append_nil])
            rw [HNX.out] at hown7'
            clear hwc
            go_wp2
            go_roundw
            case rel =>
              have := HKL.out
              first | exact ⟨k + 1, by omega, by go_num, hown7', hbel'⟩ | ((repeat apply Exists.intro); exact ⟨⟨k + 1, by omega, by go_num, hown7', hbel'⟩, rfl⟩)
            case measure =>
              have := HKL.out
              simp [intOf]
              omega
        · have hkn : k = nL := by omega
          have hall : OwnP wr w1.heap.size u7 (sentM h b order (j + 1)) := by
            rw [← sentTo_all (h := h) HL.out HJM.out hbits, ← HNL.out, ← hkn]
            exact hown7
          clear hown7
          go_wp2
          go_roundw
          case rel =>
            have := HJM.out
            have := HTN.out
            first | exact ⟨j + 1, t + order, by omega, by unfold Hid; rw [Nat.add_mul, ← HT.out]; omega, hto, by go_num, hall, hbel⟩ | ((repeat apply Exists.intro); exact ⟨⟨j + 1, t + order, by omega, by unfold Hid; rw [Nat.add_mul, ← HT.out]; omega, hto, by go_num, hall, hbel⟩, rfl⟩)
          case measure =>
            have := HTN.out
            simp [intOf]
            omega
    · have hjm : j = m := by
        rcases Nat.lt_or_ge j m with h | h
        · have : (j + 1) * order ≤ m * order := Nat.mul_le_mul_right _ (by omega)
          rw [Nat.add_mul] at this
          have := HT.out; have := HL.out; have := HN.out; omega
        · omega
      subst hjm
      go_wp2
      go_ret
      exact ⟨_, rfl, own_monoN hown7 hb1.size, bthen hb1 hbel⟩
end Go.Proofs.Ytdndeegpbjlibac
