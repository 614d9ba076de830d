import Derived.Test.YtplkmkbambbemadGreatDoorK01
import Derived.Deep.RegionLaw
namespace Go.Proofs.YtplkmkbambbemadGreatDoor
open Go.ChangeShapes Go.WideShapes Go.ChangeAt Go.RowKit
def powI (n : Int) : Bool := decide (n = 1 ∨ n = 2 ∨ n = 4 ∨ n = 8 ∨ n = 16 ∨ n = 32 ∨ n = 64 ∨ n = 128 ∨ n = 256 ∨ n = 512)
def sizeErr (n : Int) : Int := if powI n then 0 else 1
theorem pow_of {n : Int} (h : powI n = true) : ∃ m : Nat, m ≤ 9 ∧ n = ((2 ^ m : Nat) : Int) := by
  unfold powI at h
  simp only [decide_eq_true_eq] at h
  rcases h with h | h | h | h | h | h | h | h | h | h
  · exact ⟨0, by omega, h⟩
  · exact ⟨1, by omega, h⟩
  · exact ⟨2, by omega, h⟩
  · exact ⟨3, by omega, h⟩
  · exact ⟨4, by omega, h⟩
  · exact ⟨5, by omega, h⟩
  · exact ⟨6, by omega, h⟩
  · exact ⟨7, by omega, h⟩
  · exact ⟨8, by omega, h⟩
  · exact ⟨9, by omega, h⟩
theorem of_pow {m : Nat} (h : m ≤ 9) : powI ((2 ^ m : Nat) : Int) = true := by
  have : m = 0 ∨ m = 1 ∨ m = 2 ∨ m = 3 ∨ m = 4 ∨ m = 5 ∨ m = 6 ∨ m = 7 ∨ m = 8 ∨ m = 9 := by omega
  rcases this with rfl | rfl | rfl | rfl | rfl | rfl | rfl | rfl | rfl | rfl <;> rfl
theorem and_tab0 : ∀ k : Fin 513, 1 ≤ k.val → (bits BinOp.and IntKind.i64 (k.val : Int) ((k.val : Int) - 1) != 0) = !powI (k.val : Int) := by decide +kernel
theorem and_tab (n : Int) (h1 : 1 ≤ n) (h2 : n ≤ 512) : (bits BinOp.and IntKind.i64 n (n - 1) != 0) = !powI n := by
  have := and_tab0 ⟨n.toNat, by omega⟩ (by show 1 ≤ n.toNat; omega)
  simp only [show ((n.toNat : Nat) : Int) = n by omega] at this
  exact this
set_option maxRecDepth 100000 in
set_option maxHeartbeats 400000 in
theorem size_any (n : Int) (w : World) (hn : -9223372036854775808 ≤ n ∧ n ≤ 9223372036854775807) :
    Calls Tryz.prog 47 #[.int .i64 n] w fun e w' => e = .returned (.int .i64 (sizeErr n)) ∧ w = w' := by
  by_cases h1 : n < 1
  · have e : sizeErr n = 1 := by unfold sizeErr powI; rw [if_neg]; simp; omega
    rw [e]
    go_enter Tryz.func47, Tryz.ntmps47
    go_wp2
    go_ret
    exact ⟨rfl, rfl⟩
  · by_cases h2 : 512 < n
    · have e : sizeErr n = 1 := by unfold sizeErr powI; rw [if_neg]; simp; omega
      rw [e]
      have d1 : decide (n < 1) = false := decide_eq_false h1
      go_enter Tryz.func47, Tryz.ntmps47
      go_wp2
      go_ret
      exact ⟨rfl, rfl⟩
    · have d1 : decide (n < 1) = false := decide_eq_false h1
      have d2 : decide (512 < n) = false := decide_eq_false h2
      have HT := hid (and_tab n (by omega) (by omega))
      go_enter Tryz.func47, Tryz.ntmps47
      go_wp2
      · go_ret
        refine ⟨ret_int ?_, rfl⟩
        have e := HT.out.symm.trans ‹(bits BinOp.and IntKind.i64 n (n - 1) != 0) = _›
        unfold sizeErr
        cases hp : powI n
        · rfl
        · rw [hp] at e; cases e
      · go_ret
        refine ⟨ret_int ?_, rfl⟩
        have e := HT.out.symm.trans ‹(bits BinOp.and IntKind.i64 n (n - 1) != 0) = _›
        unfold sizeErr
        cases hp : powI n
        · rw [hp] at e; cases e
        · rfl
theorem AllBits.at {D : List Int} (h : AllBits D) (k : Nat) : 0 ≤ D.getD k 0 ∧ D.getD k 0 ≤ 1 := by
  by_cases hk : k < D.length
  · have e : D.getD k 0 = D[k] := by simp [List.getD, hk]
    rw [e]; exact h _ (List.getElem_mem hk)
  · have e : D.getD k 0 = 0 := by simp [List.getD, Nat.le_of_not_lt hk]
    rw [e]; omega
theorem AllBits.bits {D : List Int} (h : AllBits D) : Bits D := h.at
theorem AllBits.bytes {D : List Int} (h : AllBits D) : Bytes D := fun x hx => by have := h x hx; omega
theorem xor_tab {a x : Int} (ha : 0 ≤ a ∧ a ≤ 1) (hx : 0 ≤ x ∧ x ≤ 1) : bits BinOp.xor IntKind.u8 a x = (a + x) % 2 := by
  have h1 : a = 0 ∨ a = 1 := by omega
  have h2 : x = 0 ∨ x = 1 := by omega
  rcases h1 with rfl | rfl <;> rcases h2 with rfl | rfl <;> decide +kernel
/-- While halves are joined: k places are done. -/
def mixTo (x y : List Int) (k : Nat) : List Int := addL (x.take k) (y.take k) ++ x.drop k
theorem mix_zero (x y : List Int) : mixTo x y 0 = x := by simp [mixTo, addL]
theorem mix_all {x y : List Int} (h : x.length = y.length) : mixTo x y x.length = addL x y := by
  unfold mixTo
  rw [List.take_length, List.drop_length, List.append_nil, h, List.take_length]
theorem mix_length {x y : List Int} (h : x.length = y.length) (k : Nat) : (mixTo x y k).length = x.length := by
  simp only [mixTo, List.length_append, addL, List.length_zipWith, List.length_take, List.length_drop]
  omega
theorem mix_at {x y : List Int} (h : x.length = y.length) {k : Nat} (hk : k < x.length) : (mixTo x y k).getD k 0 = x.getD k 0 := by
  have hl : (addL (x.take k) (y.take k)).length = k := by simp [addL]; omega
  unfold mixTo List.getD
  rw [List.getElem?_append_right (by omega), hl, Nat.sub_self, List.getElem?_drop, Nat.add_zero]
theorem mix_set {x y : List Int} (h : x.length = y.length) {k : Nat} (hk : k < x.length) : (mixTo x y k).set k ((x.getD k 0 + y.getD k 0) % 2) = mixTo x y (k + 1) := by
  have hl : (addL (x.take k) (y.take k)).length = k := by simp [addL]; omega
  have hk' : k < y.length := by omega
  unfold mixTo
  rw [List.set_append_right _ _ (by omega), hl, Nat.sub_self, List.drop_eq_getElem_cons hk, List.set_cons_zero, List.take_succ_eq_append_getElem hk, List.take_succ_eq_append_getElem hk', addL_append (by simp; omega), List.append_assoc]
  simp [addL, List.getD, hk, hk']
theorem row_at {A x Z : List Int} {o k : Nat} (ho : A.length = o) (hk : k < x.length) : (A ++ x ++ Z).getD (o + k) 0 = x.getD k 0 := by
  subst ho
  unfold List.getD
  rw [List.append_assoc, List.getElem?_append_right (by omega), Nat.add_sub_cancel_left, List.getElem?_append_left hk]
theorem row_set {A x Z : List Int} {o k : Nat} (ho : A.length = o) (hk : k < x.length) (v : Int) : (A ++ x ++ Z).set (o + k) v = A ++ x.set k v ++ Z := by
  subst ho
  rw [List.append_assoc, List.set_append_right _ _ (by omega), Nat.add_sub_cancel_left, List.set_append_left _ _ hk, List.append_assoc]
set_option maxRecDepth 100000 in
set_option maxHeartbeats 1000000 in
theorem join_any (A x y Z : List Int) (g o n c h : Nat) (w : World) (harr : ArrAt .u8 5 w g (A ++ (x ++ y) ++ Z)) (hA : A.length = o) (hx : x.length = h) (hy : y.length = h) (hn : n = h + h) (h0 : 1 ≤ h) (hb : n ≤ 512) (hc : n ≤ c)
    (bx : AllBits x) (bY : AllBits y) :
    Calls Tryz.prog 96 #[.slice (some ⟨g, o, none⟩) n c] w fun e w' => e = .returned (.tuple #[]) ∧ ArrAt .u8 5 w' g (A ++ (addL x y ++ y) ++ Z) ∧ Kept [g] w w' := by
  have hq : (n : Int).tdiv 2 = (h : Int) := by rw [Int.tdiv_eq_ediv_of_nonneg (by omega)]; omega
  have hle : h ≤ n := by omega
  have hne : ¬ c = h := by omega
  have HA := hid hA
  have HX := hid hx
  have HY := hid hy
  have HN := hid hn
  have HXY := hid (hx.trans hy.symm)
  clear hA hx hy hn
  go_enter Tryz.func96, Tryz.ntmps96
  go_wp2
  go_loopw [12] (fun q wr => ∃ k : Nat, k ≤ h ∧ q = .int .i64 k ∧ ArrAt .u8 5 wr g (A ++ (mixTo x y k ++ y) ++ Z) ∧ Kept [g] w wr) (fun q _ => h - (intOf q).toNat)
  case atStart => exact ⟨0, Nat.zero_le _, rfl, by rw [mix_zero]; exact harr, Kept.refl _ _⟩
  case round =>
    obtain ⟨k, hk, rfl, hr, hkept⟩ := hrel
    have HM := hid (mix_length HXY.out k)
    by_cases hlt : k < h
    · have hlt' : k < n - h := by have := HN.out; omega
      have hltn : k < n := by omega
      have cx : wr.cell? ⟨g, o + k, none⟩ = some (.int .u8 (x.getD k 0)) := by
        rw [hr.cell (by simp [HM.out, HA.out, HX.out]; omega), row_at HA.out (by rw [List.length_append, HM.out, HX.out]; omega)]
        rw [← mix_at HXY.out (k := k) (by rw [HX.out]; exact hlt)]
        unfold List.getD
        rw [List.getElem?_append_left (by rw [HM.out, HX.out]; exact hlt)]
      have cy : wr.cell? ⟨g, o + h + k, none⟩ = some (.int .u8 (y.getD k 0)) := by
        rw [Nat.add_assoc, hr.cell (by simp [HM.out, HA.out, HX.out, HY.out]; omega), row_at HA.out (by rw [List.length_append, HM.out, HX.out, HY.out]; omega)]
        unfold List.getD
        rw [List.getElem?_append_right (by rw [HM.out, HX.out]; omega), HM.out, HX.out, Nat.add_sub_cancel_left]
      have hf := hr.free (o + k)
      have hbx := bx.at k
      have hby := bY.at k
      have hset := hr.set (o + k) ((x.getD k 0 + y.getD k 0) % 2)
      rw [row_set HA.out (by rw [List.length_append, HM.out, HX.out]; omega), List.set_append_left _ _ (by rw [HM.out, HX.out]; exact hlt), mix_set HXY.out (by rw [HX.out]; exact hlt)] at hset
      have hkept' := hkept.setCell (p := ⟨g, o + k, none⟩) (by simp) (.int .u8 ((x.getD k 0 + y.getD k 0) % 2))
      obtain ⟨p, ep⟩ : ∃ p, p = x.getD k 0 := ⟨_, rfl⟩
      obtain ⟨q, eq⟩ : ∃ q, q = y.getD k 0 := ⟨_, rfl⟩
      rw [← ep] at cx hbx
      rw [← eq] at cy hby
      rw [← ep, ← eq] at hset hkept'
      have hxr := xor_tab hbx hby
      clear ep eq hr hkept
      go_wp2
      go_roundw
      case rel => exact ⟨k + 1, by omega, by go_num, hset, hkept'⟩
      case measure => simp [intOf]; omega
    · obtain rfl : k = h := by omega
      have hge : ¬ k < n - k := by have := HN.out; omega
      go_wp2
      go_end0
      refine ⟨rfl, ?_, hkept⟩
      rw [← mix_all HXY.out, HX.out]
      exact hr
set_option maxRecDepth 100000 in
set_option maxHeartbeats 1000000 in
theorem turn_in : ∀ (m : Nat) (A x Z : List Int) (g o n c : Nat) (w : World), ArrAt .u8 5 w g (A ++ x ++ Z) → A.length = o → x.length = n → n = 2 ^ m → n ≤ 512 → n ≤ c → AllBits x →
    Calls Tryz.prog 48 #[.slice (some ⟨g, o, none⟩) n c] w fun e w' => e = .returned (.tuple #[]) ∧ ArrAt .u8 5 w' g (A ++ turnM m x ++ Z) ∧ Kept [g] w w'
  | 0, A, x, Z, g, o, n, c, w, harr, hA, hx, hn, hb, hc, bx => by
    obtain rfl : n = 1 := hn
    have HX := hid hx
    clear hx
    go_enter Tryz.func48, Tryz.ntmps48
    go_wp2
    refine bodyPost_ret (results_none rfl _ _ _) rfl ?_
    exact ⟨rfl, harr, Kept.refl _ _⟩
  | m + 1, A, x, Z, g, o, n, c, w, harr, hA, hx, hn, hb, hc, bx => by
    obtain ⟨h, eh⟩ : ∃ h, h = 2 ^ m := ⟨_, rfl⟩
    have h0 : 1 ≤ h := by rw [eh]; exact Nat.one_le_two_pow
    have hnh : n = h + h := by rw [hn, eh, Nat.pow_succ]; omega
    have l1 : (x.take h).length = h := by rw [List.length_take]; omega
    have l2 : (x.drop h).length = h := by rw [List.length_drop]; omega
    have b1 : AllBits (x.take h) := fun y hy => bx y (List.mem_of_mem_take hy)
    have b2 : AllBits (x.drop h) := fun y hy => bx y (List.mem_of_mem_drop hy)
    have hT : turnM (m + 1) x = addL (turnM m (x.take h)) (turnM m (x.drop h)) ++ turnM m (x.drop h) := by rw [turnM, eh]
    have t1 := turn_length m (x.take h) (l1.trans eh)
    have t2 := turn_length m (x.drop h) (l2.trans eh)
    rw [← eh] at t1 t2
    have c1 := turn_bits m _ b1
    have c2 := turn_bits m _ b2
    have hsp : x = x.take h ++ x.drop h := (List.take_append_drop h x).symm
    rw [hsp] at harr
    rw [hT]
    have ih1 := fun w' ha => turn_in m A (x.take h) (x.drop h ++ Z) g o h c w' ha hA l1 eh (by omega) (by omega) b1
    have ih2 := fun w' ha => turn_in m (A ++ turnM m (x.take h)) (x.drop h) Z g (o + h) h (c - h) w' ha (by rw [List.length_append, hA, t1]) l2 eh (by omega) (by omega) b2
    generalize x.take h = x1 at *
    generalize x.drop h = x2 at *
    generalize turnM m x1 = y1 at *
    generalize turnM m x2 = y2 at *
    have hj := fun w' ha => join_any A y1 y2 Z g o n c h w' ha hA t1 t2 hnh h0 hb hc c1 c2
    have hq : (n : Int).tdiv 2 = (h : Int) := by rw [Int.tdiv_eq_ediv_of_nonneg (by omega)]; omega
    have hle : h ≤ n := by omega
    have hlc : h ≤ c := by omega
    have hne : ¬ c = h := by omega
    have hn1 : ((n : Int) == 1) = false := by simp; omega
    have HNH := hid (show n - h = h by omega)
    clear hn hnh hx eh hsp hT l1 l2 t1 t2 hA
    have e1 : A ++ (x1 ++ x2) ++ Z = A ++ x1 ++ (x2 ++ Z) := by simp
    have e2 : A ++ y1 ++ (x2 ++ Z) = A ++ y1 ++ x2 ++ Z := by simp
    have e3 : A ++ y1 ++ y2 ++ Z = A ++ (y1 ++ y2) ++ Z := by simp
    rw [e1] at harr
    rw [e2] at ih1
    rw [e3] at ih2
    clear e1 e2 e3
    have tok : True := trivial
    go_enter Tryz.func48, Tryz.ntmps48
    go_wp2_with (first
      | (go_at_call 48; have _t := tok; refine (ih1 _ harr).mono ?_; rintro e w1 ⟨rfl, hr1, hk1⟩; clear tok)
      | (go_at_call 48; rw [HNH.out]; refine (ih2 _ hr1).mono ?_; rintro e w2 ⟨rfl, hr2, hk2⟩)
      | (go_at_call 96; refine (hj _ hr2).mono ?_; rintro e w3 ⟨rfl, hr3, hk3⟩))
    go_end0
    exact ⟨rfl, hr3, (hk1.trans hk2).trans hk3⟩
end Go.Proofs.YtplkmkbambbemadGreatDoor
namespace Go.Proofs.YtplkmkbambbemadGreatDoor
open Go.RowKit
/-- 'append(out, y)' as a step of a region that draws its order. -/
theorem step_push {W : World} {ops : Array Oper} {o : Oper} {a : Act} {K : Act → World → Prop} {Q : Exit → Act → World → Prop} {E : Prop} {v : Value} {L : List Int} (B : Nat) (w00 : World) (g : Nat) (y : Int) (hown : Own W B v L) (hgd : o.guard = none) (s x : Operand)
    (ho : o.op = .call { callee := .builtin .append, args := #[s, x], argTypes := #[22, 22] }) (hs : a.eval s = v) (hx : a.eval x = .slice (some ⟨g, 0, none⟩) 1 1) (hcell : W.cell? ⟨g, 0, none⟩ = some (.int .u8 y)) (hlen : L.length < 70368744177664) (hbel : Below B w00 W) (hB : B ≤ W.heap.size)
    (h : ∀ v' w', Own w' B v' (L ++ [y]) → Below B w00 w' → K (a.put o.dst v') w') : if Region.wanted o (yielded ops a.tmps) = true then Oper.wp Tryz.prog o a W K Q else E := by
  have hw : Region.wanted o (yielded ops a.tmps) = true := by simp [Region.wanted, hgd]
  rw [if_pos hw]
  obtain ⟨i0, hi, hz0, hz1, hz2⟩ := info_parts Tryz.info5
  refine wp_append_own W s x 22 ho B 5 i0 (.int .u8 0) 1 1 Tryz.underlying22 hi hz0 hz1 hz2 rfl (by decide) v _ _ hs hown ⟨g, 0, none⟩ 1 1 [.int .u8 y] hx rfl ?_ ?_ ?_ ?_ hB ?_
  · intro j u hj
    match j, hj with
    | 0, hj =>
      simp at hj
      subst hj
      simpa [Addr.add] using hcell
  · intro u hu; simp at hu; subst hu; rfl
  · unfold maxLen; omega
  · omega
  · intro v' w' h1 h2 _
    exact h v' w' (Own.snoc h1) (hbel.grown h2 hB (own_blocks hown))
/-- The one cell of a block that was just laid. -/
theorem cell_one (w : World) (x : Value) (T : TypeId) : (w.alloc (.cells #[x] T)).drew.cell? ⟨w.heap.size, 0, none⟩ = some x := by
  show (w.alloc (.cells #[x] T)).cell? _ = _
  rw [cell_of_row _ _ _ _ _ _ (heap_alloc_new w _)]; rfl
end Go.Proofs.YtplkmkbambbemadGreatDoor
namespace Go.Proofs.YtplkmkbambbemadGreatDoor
open Go.ChangeShapes Go.WideShapes Go.ChangeAt Go.RowKit
/-- Two lists of bits, added place by place (as bytes are). -/
def addTo (xs ys : List Int) (k : Nat) : List Int := (List.range k).map fun i => (xs.getD i 0 + ys.getD i 0) % 2
theorem addTo_length (xs ys : List Int) (k : Nat) : (addTo xs ys k).length = k := by simp [addTo]
theorem addTo_succ (xs ys : List Int) (k : Nat) : addTo xs ys (k + 1) = addTo xs ys k ++ [(xs.getD k 0 + ys.getD k 0) % 2] := by simp [addTo, List.range_succ]
set_option maxHeartbeats 1000000 in
theorem added_any (xs ys : List Int) (a b : Option Addr) (ca cb m : Nat) (w : World) (ha : Rd .u8 w a xs) (hb : Rd .u8 w b ys) (hx : Bits xs) (hy : Bits ys) (hl : ys.length = m) (hm : xs.length ≤ m) (hz : m ≤ 4096) :
    Calls Tryz.prog 80 #[.slice a xs.length ca, .slice b m cb] w fun e w' => ∃ v, e = .returned v ∧ Own w' w.heap.size v (addTo xs ys xs.length) ∧ Below w.heap.size w w' := by
  have HL := hid hl
  clear hl
  go_enter Tryz.func80, Tryz.ntmps80
  go_wp2
  go_loopw [5, 6] (fun v i wr => ∃ k : Nat, k ≤ xs.length ∧ i = .int .i64 k ∧ Own wr w.heap.size v (addTo xs ys k) ∧ Below w.heap.size w wr) (fun _ i _ => xs.length - (intOf i).toNat)
  case atStart => exact ⟨0, Nat.zero_le _, rfl, Own.nil _ _, Below.refl _ _⟩
  case round =>
    obtain ⟨k, hk, rfl, hown, hbel⟩ := hrel
    have hsz := hbel.size
    by_cases hlt : k < xs.length
    · obtain ⟨b1, o1, rfl, hc1⟩ := (ha.below hbel).at hlt
      obtain ⟨b2, o2, rfl, hc2⟩ := (hb.below hbel).at (i := k) (by rw [HL.out]; omega)
      have g1 := hc1 k hlt
      have g2 := hc2 k (by rw [HL.out]; omega)
      have bx := hx k
      have by' := hy k
      clear hc1 hc2
      obtain ⟨x, ex⟩ : ∃ x, x = xs.getD k 0 := ⟨_, rfl⟩
      obtain ⟨y, ey⟩ : ∃ y, y = ys.getD k 0 := ⟨_, rfl⟩
      rw [← ex] at g1 bx
      rw [← ey] at g2 by'
      have EX := hid ex
      have EY := hid ey
      clear ex ey
      have hkm : (k : Int) < (m : Int) := by omega
      have hwr : IntKind.u8.wrap (x + y) = x + y := by rw [IntKind.wrap_u8']; omega
      have htm : (x + y).tmod 2 = (x + y) % 2 := Int.tmod_eq_emod_of_nonneg (by omega)
      go_wp2_with fail
      go_region_law (refine step_push w.heap.size w wr.heap.size ((x + y) % 2) (show Own (wr.alloc (.cells #[.int .u8 ((x + y) % 2)] 5)).drew _ _ _ from World.ownsRow.alloc hown _) rfl (.tmp 13) (.tmp 24) rfl rfl rfl (cell_one _ _ _) (by rw [addTo_length]; omega) (hbel.alloc hsz _).drew (by simp; omega) ?_; intro v' w1 hown' hbel')
      all_goals
        rw [EX.out, EY.out, ← addTo_succ] at hown'
        clear hown hbel
        go_wp2
        go_roundw
        case rel => exact ⟨k + 1, by omega, by go_num, hown', hbel'⟩
        case measure => simp [intOf]; omega
    · go_wp2
      go_ret
      obtain rfl : k = xs.length := by omega
      exact ⟨_, rfl, hown, hbel⟩
end Go.Proofs.YtplkmkbambbemadGreatDoor
namespace Go.Proofs.YtplkmkbambbemadGreatDoor
open Go.RowKit
theorem zeroCells_one (z : Value) (m : Nat) : Builtin.zeroCells #[z] m = (List.replicate m z).toArray := by
  apply Array.ext'
  simp [Builtin.zeroCells]
  exact List.ext_getElem (by simp) (by intro i h1 h2; simp [Nat.mod_one])
/-- 'append(v, make([]T, m)...)' (T of one cell): the translator lays it as an append of m zero elements. v nil, or a row of one's own. -/
theorem run_append_zeros {P : Program} (w : World) (base : Nat) (t ti ty e : TypeId) (i : TypeInfo) (z : Value) (bytes : Nat) (ht : P.underlying t = some (.slice e)) (hti : P.underlying ti = some (.int .i64)) (hi : P.info? e = some i)
    (hz : i.zero = some z) (hsize : i.size = 1) (hby : i.bytes = bytes) (hzs : z.cells = #[z]) (hone : z.oneCell' = true)
    (v : Value) (n : Nat) (xs : List Value) (hown : w.ownsRow base e 1 v n xs) (m : Nat) (h0 : 0 < m) (h40 : n + m ≤ 70368744177664) (hb : 0 < bytes ∧ bytes ≤ 1) (hbase : base ≤ w.heap.size) :
    ∃ v' w', (Builtin.append_ #[t, ti] ty #[v, .int .i64 m]).run P w = .ok v' w' ∧ w'.ownsRow base e 1 v' (n + m) (xs ++ List.replicate m z) ∧ w.grownBy w' v.ownBlock := by
  have hb1 : bytes = 1 := by omega
  subst hb1
  have hwrap : IntKind.i64.wrap (m : Int) = (m : Int) := by rw [IntKind.wrap_i64]; omega
  have hneg : ¬ ((m : Int) < 0) := by omega
  have hbig : ¬ (281474976710656 < (m : Int)) := by omega
  have hmax : n + m ≤ maxLen := by unfold maxLen; omega
  have hxl : xs.length = n := by simpa using hown.1
  have hm0 : m ≠ 0 := by omega
  have hlen : (xs ++ List.replicate m z).length = (n + m) * 1 := by simp [hxl]
  have grown : ∀ (old : Nat), old < n + m → ∀ (row : Option Nat),
      (w.drew.alloc (.cells (xs.toArray ++ (List.replicate m z).toArray ++ Builtin.zeroCells #[z] (grownCap w (n + m) old e - (n + m))) e)).ownsRow base e 1
        (.slice (some ⟨w.heap.size, 0, none⟩) (n + m) (grownCap w (n + m) old e)) (n + m) (xs ++ List.replicate m z) ∧
      w.grownBy (w.drew.alloc (.cells (xs.toArray ++ (List.replicate m z).toArray ++ Builtin.zeroCells #[z] (grownCap w (n + m) old e - (n + m))) e)) row := by
    intro old ho row
    have hge := grownCap_ge w (n + m) old e
    have hcm : grownCap w (n + m) old e ≤ maxLen := grownCap_le_maxLen w (n + m) old e hmax
    refine ⟨⟨hlen, .inr ⟨w.heap.size, _, _, rfl, hbase, heap_alloc_new w.drew _, hge, hcm, ?_, ?_⟩⟩, ⟨rfl, rfl, rfl, by simp, fun k hk _ => Below.heap_alloc w.drew _ k hk⟩⟩
    · simp [size_zeroCells, hxl]; omega
    · simp only [Array.toList_append, List.append_assoc]
      rw [← List.append_assoc, ← hlen]
      exact List.take_left
  rcases hown.2 with ⟨rfl, rfl⟩ | ⟨g, cap, cur, rfl, hbg, hg, hnc, hcm, hcs, htake⟩
  · have hx : xs = [] := List.eq_nil_of_length_eq_zero hxl
    subst hx
    have h63' : ¬ (9223372036854775807 < (m : Int)) := by omega
    have h48' : ¬ (281474976710656 < Builtin.nextslicecap m 0) := by rw [nextslicecap_zero h0]; omega
    have hr : (Builtin.append_ #[t, ti] ty #[.slice none 0 0, .int .i64 m]).run P w =
        .ok (.slice (some ⟨w.heap.size, 0, none⟩) m (grownCap w m 0 e)) (w.drew.alloc (.cells ((List.replicate m z).toArray ++ Builtin.zeroCells #[z] (grownCap w m 0 e - m)) e)) := by
      simp [Builtin.append_, run_underlying ht, run_underlying hti, sizeOf, typeInfo, zeroValue, hi, hz, hsize, hby, hzs, asInt, asIntOf, hwrap, hneg, hbig, hm0, h63', h48', Question.forced, run_firstCells_none, newRow, grownCap, zeroCells_one]
    have hgr := grown 0 (by omega) (Value.ownBlock (.slice none 0 0))
    simp only [Nat.zero_add, List.nil_append, Array.empty_append] at hgr ⊢
    exact ⟨_, _, hr, hgr.1, hgr.2⟩
  · by_cases hroom : n + m ≤ cap
    · have hfit : n + m ≤ cur.size := by omega
      have hst := run_storeCells_at P g n e (List.replicate m z) 0 cur w hg (by simpa using hfit) (by intro u hu; rw [List.eq_of_mem_replicate hu]; exact hone)
      simp only [Nat.add_zero] at hst
      have hr : (Builtin.append_ #[t, ti] ty #[.slice (some ⟨g, 0, none⟩) n cap, .int .i64 m]).run P w =
          .ok (.slice (some ⟨g, 0, none⟩) (n + m) cap) (w.setRow g (cur.toList.take n ++ List.replicate m z ++ cur.toList.drop (n + (List.replicate m z).length)).toArray) := by
        simp [Builtin.append_, run_underlying ht, run_underlying hti, sizeOf, typeInfo, zeroValue, hi, hz, hsize, hby, hzs, asInt, asIntOf, hwrap, hneg, hbig, hm0, hroom, zeroCells_one, Addr.add_lit, hst]
      refine ⟨_, _, hr, ⟨hlen, .inr ⟨g, cap, _, rfl, hbg, setRow_heap w g cur _ e _ hg, hroom, hcm, ?_, ?_⟩⟩, ⟨rfl, rfl, rfl, by simp, fun k _ hk => setRow_other w g k _ (fun e => hk (by simp [Value.ownBlock, e]))⟩⟩
      · simp only [List.size_toArray, List.length_append, List.length_take, List.length_drop, Array.length_toList, List.length_replicate]
        omega
      · have h1 := htake
        rw [Nat.mul_one] at h1
        rw [h1, ← hlen]
        exact List.take_left
    · have holds : ∀ j u, xs[j]? = some u → w.cell? ((⟨g, 0, none⟩ : Addr).add j) = some u := hown.cells (g := g) rfl
      have hfo := run_firstCells_some (P := P) w.drew 1 n ⟨g, 0, none⟩ n cap xs hown.1 (by simpa using holds)
      have h63' : ¬ (9223372036854775807 < (n : Int) + (m : Int)) := by omega
      have h48' : ¬ (281474976710656 < Builtin.nextslicecap (n + m) cap) := by
        have := growslice_fits (need := n + m) (old := cap) (bytes := 1) (by omega) (by omega)
        omega
      have hr : (Builtin.append_ #[t, ti] ty #[.slice (some ⟨g, 0, none⟩) n cap, .int .i64 m]).run P w =
          .ok (.slice (some ⟨w.heap.size, 0, none⟩) (n + m) (grownCap w (n + m) cap e))
            (w.drew.alloc (.cells (xs.toArray ++ (List.replicate m z).toArray ++ Builtin.zeroCells #[z] (grownCap w (n + m) cap e - (n + m))) e)) := by
        simp [Builtin.append_, run_underlying ht, run_underlying hti, sizeOf, typeInfo, zeroValue, hi, hz, hsize, hby, hzs, asInt, asIntOf, hwrap, hneg, hbig, hm0, hroom, h63', h48', Question.forced, hfo, newRow, grownCap, zeroCells_one]
      have hgr := grown cap (by omega) (Value.ownBlock (.slice (some ⟨g, 0, none⟩) n cap))
      exact ⟨_, _, hr, hgr.1, hgr.2⟩
/-- The same as a law for the walk, of lists of bytes. -/
theorem wpList_zeros {w : World} {ops : Array Oper} {rest : List Oper} {o : Oper} {a : Act} {Q : Exit → Act → World → Prop} {v : Value} {L : List Int} (B : Nat) (w00 : World) (m : Nat) (hown : Own w B v L) (hgd : o.guard = none) (s x : Operand)
    (ho : o.op = .call { callee := .builtin .append, args := #[s, x], argTypes := #[22, 3] }) (hs : a.eval s = v) (hx : a.eval x = .int .i64 m) (h0 : 0 < m) (hlen : L.length + m ≤ 70368744177664) (hbel : Below B w00 w) (hB : B ≤ w.heap.size)
    (h : ∀ v' w', Own w' B v' (L ++ List.replicate m 0) → Below B w00 w' → wpList Tryz.prog ops Q rest (a.put o.dst v') w') : wpList Tryz.prog ops Q (o :: rest) a w := by
  obtain ⟨i0, hi, hz0, hz1, hz2⟩ := info_parts Tryz.info5
  obtain ⟨v', w', hr, h1, h2⟩ := run_append_zeros (P := Tryz.prog) w B 22 3 o.type 5 i0 (.int .u8 0) 1 Tryz.underlying22 Tryz.underlying3 hi hz0 hz1 hz2 rfl rfl v _ _ hown m h0 hlen (by decide) hB
  refine wpList_plain hgd fun K hK => ?_
  unfold Oper.wp execOp
  simp only [ho, resolve, invoke, builtin, Sem.run_bind, Sem.run_pure, Result.andThen_ok, List.map_toArray, List.map_cons, List.map_nil, hs, hx, hr]
  refine hK _ _ (h v' w' ?_ (hbel.grown h2 hB (own_blocks hown)))
  unfold Own
  rw [List.length_append, List.map_append, List.length_replicate, List.map_replicate]
  exact h1
/-- 'append(v, x...)', x empty, wherever it lies. -/
theorem run_append_empty {P : Program} (w : World) (base : Nat) (t ty e : TypeId) (i : TypeInfo) (size : Nat) (ht : P.underlying t = some (.slice e)) (hi : P.info? e = some i)
    (v : Value) (n : Nat) (xs : List Value) (hown : w.ownsRow base e size v n xs) (ad : Option Addr) (c : Nat) : (Builtin.append_ #[t, t] ty #[v, .slice ad 0 c]).run P w = .ok v w := by
  rcases hown.2 with ⟨rfl, rfl⟩ | ⟨g, cap, cur, rfl, hbg, hg, hnc, _⟩
  · cases ad <;> simp [Builtin.append_, run_underlying ht, sizeOf, typeInfo, hi, Builtin.lenOf, Builtin.firstCells, loadCells, loadCellsFrom]
  · cases ad <;> simp [Builtin.append_, run_underlying ht, sizeOf, typeInfo, hi, Builtin.lenOf, Builtin.firstCells, loadCells, loadCellsFrom, hnc, storeCells]
/-- 'append(v, x...)', v a list of bytes of one's own, x one that can be read . -/
theorem wpList_cat {w : World} {ops : Array Oper} {rest : List Oper} {o : Oper} {a : Act} {Q : Exit → Act → World → Prop} {v : Value} {L M : List Int} {ad : Option Addr} (B : Nat) (w00 : World) (hown : Own w B v L) (hrd : Rd .u8 w ad M) (hgd : o.guard = none) (s x : Operand)
    (ho : o.op = .call { callee := .builtin .append, args := #[s, x], argTypes := #[22, 22] }) (hs : a.eval s = v) (c : Nat) (hx : a.eval x = .slice ad M.length c) (hlen : L.length + M.length ≤ 70368744177664) (hbel : Below B w00 w) (hB : B ≤ w.heap.size)
    (h : ∀ v' w', Own w' B v' (L ++ M) → Below B w00 w' → wpList Tryz.prog ops Q rest (a.put o.dst v') w') : wpList Tryz.prog ops Q (o :: rest) a w := by
  obtain ⟨i0, hi, hz0, hz1, hz2⟩ := info_parts Tryz.info5
  by_cases hne : M = []
  · subst hne
    have hr := run_append_empty (P := Tryz.prog) w B 22 o.type 5 i0 1 Tryz.underlying22 hi v _ _ hown ad c
    refine wpList_plain hgd fun K hK => ?_
    unfold Oper.wp execOp
    simp only [ho, resolve, invoke, builtin, Sem.run_bind, Sem.run_pure, Result.andThen_ok, List.map_toArray, List.map_cons, List.map_nil, hs, hx, List.length_nil, hr]
    exact hK _ _ (h v w (by rw [List.append_nil]; exact hown) hbel)
  obtain ⟨b, off, rfl, hc⟩ := hrd hne
  refine wpList_append_own _ hgd s x 22 ho B 5 i0 (.int .u8 0) 1 1 Tryz.underlying22 hi hz0 hz1 hz2 rfl (by decide) v _ _ hs hown ⟨b, off, none⟩ M.length c (M.map (Value.int .u8)) hx (by simp) ?_ ?_ ?_ ?_ hB ?_
  · intro j u hj
    have hjl : j < M.length := by
      rcases Nat.lt_or_ge j M.length with h' | h'
      · exact h'
      · rw [List.getElem?_eq_none (by simpa using h')] at hj; cases hj
    have e1 : (⟨b, off, none⟩ : Addr).add j = ⟨b, off + j, none⟩ := by unfold Addr.add; split <;> simp_all
    rw [e1, hc j hjl, ← hj]
    simp [List.getD, hjl]
  · intro u hu
    obtain ⟨y, _, rfl⟩ := List.mem_map.1 hu
    rfl
  · unfold maxLen; omega
  · omega
  · intro v' w' h1 h2 _
    refine h v' w' ?_ (hbel.grown h2 hB (own_blocks hown))
    unfold Own
    rw [List.length_append, List.map_append]
    exact h1
end Go.Proofs.YtplkmkbambbemadGreatDoor
namespace Go.Proofs.YtplkmkbambbemadGreatDoor
open Go.ChangeShapes Go.WideShapes Go.ChangeAt Go.RowKit
theorem Tryz.info3 : (Tryz.prog.info? 3).map (fun i => (i.zero, i.size, i.bytes)) = some (some (.int .i64 0), 1, 8) := by kernel_rfl
/-- A list of numbers of one's own. -/
def OwnI (w : World) (B : Nat) (v : Value) (L : List Int) : Prop := w.ownsRow B 3 1 v L.length (L.map (Value.int .i64))
theorem OwnI.nil (w : World) (B : Nat) : OwnI w B (.slice none 0 0) [] := World.ownsRow_nil _ _ _ _
theorem OwnI.snoc {w : World} {B : Nat} {v : Value} {L : List Int} {x : Int} (h : w.ownsRow B 3 1 v (L.length + 1) (L.map (Value.int .i64) ++ [.int .i64 x])) : OwnI w B v (L ++ [x]) := by
  unfold OwnI
  rw [List.length_append, List.map_append]
  exact h
theorem ownI_blocks {w : World} {B : Nat} {v : Value} {L : List Int} (h : OwnI w B v L) : ∀ k, v.ownBlock = some k → B ≤ k := fun k hk => (h.lt k hk).1
theorem wpList_pushL {ops : Array Oper} {rest : List Oper} {o : Oper} {a : Act} {Q : Exit → Act → World → Prop} {w0 : World} {v : Value} {L : List Int} (B : Nat) (w00 : World) (y : Int) (hown : OwnI w0 B v L) (hgd : o.guard = none) (s x : Operand)
    (ho : o.op = .call { callee := .builtin .append, args := #[s, x], argTypes := #[23, 23] }) (hs : a.eval s = v)
    (hx : a.eval x = .slice (some ⟨w0.heap.size, 0, none⟩) 1 1) (hlen : L.length < 17592186044416) (hbel : Below B w00 w0) (hB : B ≤ w0.heap.size)
    (h : ∀ v' w', OwnI w' B v' (L ++ [y]) → Below B w00 w' → wpList Tryz.prog ops Q rest (a.put o.dst v') w') : wpList Tryz.prog ops Q (o :: rest) a (w0.alloc (.cells #[.int .i64 y] 3)) := by
  obtain ⟨i0, hi, hz0, hz1, hz2⟩ := info_parts Tryz.info3
  refine wpList_append_own _ hgd s x 23 ho B 3 i0 (.int .i64 0) 1 8 Tryz.underlying23 hi hz0 hz1 hz2 rfl (by decide) v _ _ hs (World.ownsRow.alloc hown _) ⟨w0.heap.size, 0, none⟩ 1 1 [.int .i64 y] hx rfl (cell_one_new _ _ _) ?_ ?_ ?_ ?_ ?_
  · intro u hu; simp at hu; subst hu; rfl
  · unfold maxLen; omega
  · omega
  · simp; omega
  · intro v' w' h1 h2 _
    exact h v' w' (OwnI.snoc h1) ((hbel.alloc hB _).grown h2 (by simp; omega) (ownI_blocks hown))
theorem wpList_pushI {ops : Array Oper} {rest : List Oper} {o : Oper} {a : Act} {Q : Exit → Act → World → Prop} {w0 : World} {v : Value} {L : List Int} (B : Nat) (w00 : World) (y : Int) (hown : OwnI w0 B v L) (hgd : o.guard = none) (s x : Operand)
    (ho : o.op = .call { callee := .builtin .append, args := #[s, x], argTypes := #[23, 23] }) (hs : a.eval s = v)
    (hx : a.eval x = .slice (some ⟨w0.heap.size, 0, none⟩) 1 1) (hlen : L.length < 8796093022208) (hbel : Below B w00 w0) (hB : B ≤ w0.heap.size)
    (h : ∀ v' w', OwnI w' B v' (L ++ [y]) → Below B w00 w' → wpList Tryz.prog ops Q rest (a.put o.dst v') w') : wpList Tryz.prog ops Q (o :: rest) a (w0.alloc (.cells #[.int .i64 y] 3)) :=
  wpList_pushL B w00 y hown hgd s x ho hs hx (Nat.lt_trans hlen (by decide)) hbel hB h
theorem OwnI.rd {w : World} {B n c : Nat} {a : Option Addr} {L : List Int} (h : OwnI w B (.slice a n c) L) : Rd .i64 w a L := Rd.own h
theorem OwnI.shape {w : World} {B : Nat} {v : Value} {L : List Int} (h : OwnI w B v L) : ∃ a c, v = .slice a L.length c ∧ L.length ≤ c ∧ c ≤ maxLen := by
  rcases h.2 with ⟨rfl, h0⟩ | ⟨g, cap, cur, rfl, _, _, h1, h2, _⟩
  · exact ⟨none, 0, by rw [h0], by omega, by unfold maxLen; omega⟩
  · exact ⟨_, cap, rfl, h1, h2⟩
/-- 'make([]int, N)'. -/
theorem wpList_makeInts {w : World} {ops : Array Oper} {rest : List Oper} {o : Oper} {a : Act} {Q : Exit → Act → World → Prop} (B : Nat) (w00 : World) (N : Nat) (hgd : o.guard = none) (l c : Operand)
    (ho : o.op = Op.makeSlice 23 l c) (x y : Int) (hl : a.eval l = .int .i64 x) (hc : a.eval c = .int .i64 y) (hx : x = (N : Int)) (hy : y = (N : Int)) (hN : N ≤ 8796093022208) (hbel : Below B w00 w) (hB : B ≤ w.heap.size)
    (h : ∀ w', OwnI w' B (.slice (some ⟨w.heap.size, 0, none⟩) N N) (List.replicate N 0) → Below B w00 w' → w.heap.size < w'.heap.size → Below w.heap.size w w' → wpList Tryz.prog ops Q rest (a.put o.dst (.slice (some ⟨w.heap.size, 0, none⟩) N N)) w') :
    wpList Tryz.prog ops Q (o :: rest) a w := by
  obtain ⟨i0, hi, hz0, hz1, hz2⟩ := info_parts Tryz.info3
  refine wpList_make_full w hgd l c 23 ho B 3 i0 (.int .i64 0) 1 Tryz.underlying23 hi hz0 hz1 .i64 .i64 x y N hl hc hx hy (by rw [hz2]; omega) (by unfold maxLen; omega) hB fun w' h1 h2 => ?_
  have e : (madeCells (Value.cells (.int .i64 0)) (N * 1)).toList = List.replicate N (.int .i64 0) := by
    rw [Nat.mul_one]; exact toList_madeCells_one _ _
  rw [e] at h1
  have hlt := (h1.lt w.heap.size rfl).2
  refine h w' ?_ (hbel.grown h2 hB (by intro k hk; cases hk)) hlt ((Below.refl _ _).grown h2 (Nat.le_refl _) (by intro k hk; cases hk))
  unfold OwnI
  rw [List.length_replicate, List.map_replicate]
  exact h1
theorem OwnI.below {w w' : World} {B : Nat} {v : Value} {L : List Int} (h : OwnI w B v L) (hb : Below w.heap.size w w') : OwnI w' B v L := by
  refine ⟨h.1, ?_⟩
  rcases h.2 with h' | ⟨g, cap, cur, h1, h2, h3, h4⟩
  · exact .inl h'
  · have hlt : g < w.heap.size := by
      rcases Nat.lt_or_ge g w.heap.size with hl | hl
      · exact hl
      · rw [Array.getElem?_eq_none hl] at h3; cases h3
    exact .inr ⟨g, cap, cur, h1, h2, (hb.block g hlt).trans h3, h4⟩
theorem OwnI.mono {w : World} {B B' : Nat} {v : Value} {L : List Int} (h : OwnI w B v L) (hB : B' ≤ B) : OwnI w B' v L := by
  refine ⟨h.1, ?_⟩
  rcases h.2 with h' | ⟨g, cap, cur, h1, h2, h3⟩
  · exact .inl h'
  · exact .inr ⟨g, cap, cur, h1, by omega, h3⟩
theorem OwnI.len {w : World} {B g N c : Nat} {L : List Int} (h : OwnI w B (.slice (some ⟨g, 0, none⟩) N c) L) : L.length = N := by
  rcases h.2 with ⟨h', _⟩ | ⟨g', cap, cur, h', _⟩
  · simp at h'
  · simp only [Value.slice.injEq] at h'
    exact h'.2.1.symm
theorem OwnI.block {w : World} {B g N c : Nat} {L : List Int} (h : OwnI w B (.slice (some ⟨g, 0, none⟩) N c) L) : B ≤ g ∧ g < w.heap.size := h.lt g rfl
/-- A row of one's own that has no spare room fills its block. -/
theorem OwnI.arr {w : World} {B g N : Nat} {L : List Int} (h : OwnI w B (.slice (some ⟨g, 0, none⟩) N N) L) : ArrAt .i64 3 w g L ∧ B ≤ g ∧ N ≤ maxLen := by
  have hl := h.len
  rcases h.2 with ⟨h', _⟩ | ⟨g', cap, cur, h', hB, hg, _, hm, hcs, ht⟩
  · simp at h'
  · simp only [Value.slice.injEq, Option.some.injEq, Addr.mk.injEq, and_true] at h'
    obtain ⟨rfl, _, rfl⟩ := h'
    refine ⟨?_, hB, hm⟩
    unfold ArrAt
    rw [hg, ← ht, List.take_of_length_le (by simp; omega)]
end Go.Proofs.YtplkmkbambbemadGreatDoor
namespace Go.Proofs.YtplkmkbambbemadGreatDoor
open Go.ChangeShapes Go.WideShapes Go.ChangeAt Go.RowKit
/-- Soft numbers: each within the bound. -/
def softOk (l : List Int) : Bool := l.all fun x => decide (-100000 ≤ x ∧ x ≤ 100000)
def SoftTo (l : List Int) (k : Nat) : Prop := ∀ j, j < k → -100000 ≤ l.getD j 0 ∧ l.getD j 0 ≤ 100000
theorem soft_all {l : List Int} (h : SoftTo l l.length) : softOk l = true := by
  unfold softOk
  rw [List.all_eq_true]
  intro x hx
  obtain ⟨k, hk, rfl⟩ := List.getElem_of_mem hx
  have := h k hk
  have e : l.getD k 0 = l[k] := by simp [List.getD, hk]
  rw [e] at this
  simpa using this
theorem soft_at {l : List Int} (h : softOk l = true) (k : Nat) : -100000 ≤ l.getD k 0 ∧ l.getD k 0 ≤ 100000 := by
  unfold softOk at h
  rw [List.all_eq_true] at h
  by_cases hk : k < l.length
  · have := h _ (List.getElem_mem hk)
    have e : l.getD k 0 = l[k] := by simp [List.getD, hk]
    rw [e]
    simpa using this
  · have : l.getD k 0 = 0 := by simp [List.getD, Nat.le_of_not_lt hk]
    rw [this]; omega
theorem soft_bad {l : List Int} {k : Nat} (h : l.getD k 0 < -100000 ∨ 100000 < l.getD k 0) : softOk l = false := by
  cases hs : softOk l with
  | false => rfl
  | true => have := soft_at hs k; omega
theorem ret_bool {a b : Bool} (h : a = b) : Ending.returned (.bool a) = .returned (.bool b) := by rw [h]
set_option maxHeartbeats 400000 in
theorem rsoft_any (l : List Int) (a : Option Addr) (c : Nat) (w : World) (ha : Rd .i64 w a l) (hl : l.length ≤ maxLen) :
    Calls Tryz.prog 87 #[.slice a l.length c] w fun e w' => e = .returned (.bool (softOk l)) ∧ w = w' := by
  unfold maxLen at hl
  go_enter Tryz.func87, Tryz.ntmps87
  go_wp2
  go_loop [3] (fun i => ∃ k : Nat, k ≤ l.length ∧ i = .int .i64 k ∧ Hid (SoftTo l k)) (fun i => l.length - (intOf i).toNat)
  case atStart => exact ⟨0, Nat.zero_le _, rfl, fun j hj => by omega⟩
  case round =>
    obtain ⟨k, hk, rfl, hok⟩ := hrel
    by_cases hlt : k < l.length
    · obtain ⟨b1, o1, rfl, hc1⟩ := ha.at hlt
      have g1 := hc1 k hlt
      clear hc1
      obtain ⟨x, hx⟩ : ∃ x, x = l.getD k 0 := ⟨_, rfl⟩
      rw [← hx] at g1
      have HX := hid hx
      clear hx
      by_cases h1 : 100000 < x
      · go_wp2
        go_ret
        exact ⟨ret_bool (soft_bad (k := k) (by rw [← HX.out]; omega)).symm, rfl⟩
      · have d1 : decide (100000 < x) = false := decide_eq_false h1
        by_cases h2 : x < -100000
        · go_wp2
          go_ret
          exact ⟨ret_bool (soft_bad (k := k) (by rw [← HX.out]; omega)).symm, rfl⟩
        · have d2 : decide (x < -100000) = false := decide_eq_false h2
          have hstep : Hid (SoftTo l (k + 1)) := fun j hj => by
            by_cases e : j = k
            · subst e; rw [← HX.out]; omega
            · exact hok.out j (by omega)
          go_wp2
          go_round
          case rel => exact ⟨k + 1, by omega, by go_num, hstep⟩
          case measure => simp [intOf]; omega
    · obtain rfl : k = l.length := by omega
      go_wp2
      go_ret
      exact ⟨ret_bool (soft_all hok.out).symm, rfl⟩
/-- What coded bits score. -/
def scoreTo (cs l : List Int) : Nat → Int
  | 0 => 0
  | k + 1 => scoreTo cs l k + sgn (cs.getD k 0) (l.getD k 0)
theorem scoreTo_bd (cs l : List Int) (h : ∀ k, -100000 ≤ l.getD k 0 ∧ l.getD k 0 ≤ 100000) : ∀ k : Nat, -(100000 * (k : Int)) ≤ scoreTo cs l k ∧ scoreTo cs l k ≤ 100000 * (k : Int)
  | 0 => by simp [scoreTo]
  | k + 1 => by
    have := scoreTo_bd cs l h k
    have := h k
    unfold scoreTo sgn
    split <;> omega
set_option maxHeartbeats 400000 in
theorem rscore_any (cs l : List Int) (a b : Option Addr) (ca cb m : Nat) (w : World) (ha : Rd .u8 w a cs) (hb : Rd .i64 w b l) (hm : l.length = m) (hlen : cs.length ≤ m) (hc : cs.length ≤ 100000) (hl : ∀ k, -100000 ≤ l.getD k 0 ∧ l.getD k 0 ≤ 100000) :
    Calls Tryz.prog 119 #[.slice a cs.length ca, .slice b m cb] w fun e w' => e = .returned (.int .i64 (scoreTo cs l cs.length)) ∧ w = w' := by
  have HM := hid hm
  clear hm
  go_enter Tryz.func119, Tryz.ntmps119
  go_wp2
  go_loop [5, 6] (fun n i => ∃ k : Nat, ∃ q : Int, k ≤ cs.length ∧ i = .int .i64 k ∧ n = .int .i64 q ∧ -10000000000 ≤ q ∧ q ≤ 10000000000 ∧ Hid (q = scoreTo cs l k)) (fun _ i => cs.length - (intOf i).toNat)
  case atStart => exact ⟨0, 0, Nat.zero_le _, rfl, rfl, by omega, by omega, rfl⟩
  case round =>
    obtain ⟨k, q, hk, rfl, rfl, hq0, hq1, HQ⟩ := hrel
    by_cases hlt : k < cs.length
    · obtain ⟨b1, o1, rfl, hc1⟩ := ha.at hlt
      obtain ⟨b2, o2, rfl, hc2⟩ := hb.at (i := k) (by rw [HM.out]; omega)
      have g1 := hc1 k hlt
      have g2 := hc2 k (by rw [HM.out]; omega)
      have by' := hl k
      have hnext := scoreTo_bd cs l hl (k + 1)
      have hs := hid (show scoreTo cs l (k + 1) = scoreTo cs l k + sgn (cs.getD k 0) (l.getD k 0) from rfl)
      clear hc1 hc2
      obtain ⟨x, ex⟩ : ∃ x, x = cs.getD k 0 := ⟨_, rfl⟩
      obtain ⟨y, ey⟩ : ∃ y, y = l.getD k 0 := ⟨_, rfl⟩
      rw [← ex] at g1
      rw [← ey] at g2 by'
      have EX := hid ex
      have EY := hid ey
      have hkm : (k : Int) < (m : Int) := by omega
      clear ex ey
      have hn2 : -10000000000 ≤ scoreTo cs l (k + 1) ∧ scoreTo cs l (k + 1) ≤ 10000000000 := by omega
      have HN2 := hid hn2
      clear hnext hn2
      by_cases h1 : x = 1
      · have c1 : (x == 1) = true := by simpa using h1
        have hv := hid (show q - y = scoreTo cs l (k + 1) by rw [hs.out, ← HQ.out, ← EX.out, ← EY.out, sgn, if_pos h1]; omega)
        clear h1
        go_wp2
        go_round
        case rel => exact ⟨k + 1, q - y, by omega, by go_num, rfl, by rw [hv.out]; exact HN2.out.1, by rw [hv.out]; exact HN2.out.2, hv.out⟩
        case measure => simp [intOf]; omega
      · have c1 : (x == 1) = false := by simpa using h1
        have hv := hid (show q + y = scoreTo cs l (k + 1) by rw [hs.out, ← HQ.out, ← EX.out, ← EY.out, sgn, if_neg h1])
        clear h1
        go_wp2
        go_round
        case rel => exact ⟨k + 1, q + y, by omega, by go_num, rfl, by rw [hv.out]; exact HN2.out.1, by rw [hv.out]; exact HN2.out.2, hv.out⟩
        case measure => simp [intOf]; omega
    · obtain rfl : k = cs.length := by omega
      go_wp2
      go_ret
      exact ⟨ret_int HQ.out, rfl⟩
end Go.Proofs.YtplkmkbambbemadGreatDoor
namespace Go.Proofs.YtplkmkbambbemadGreatDoor
def absI (a : Int) : Int := if a < 0 then -a else a
/-- The sight of the first half: the lesser size, below 0 if just one is below 0. -/
def fI (a b : Int) : Int := if (a < 0 ∧ 0 ≤ b) ∨ (0 ≤ a ∧ b < 0) then -(min (absI a) (absI b)) else min (absI a) (absI b)
/-- The sight of the second half, x being what was found of the first. -/
def gI (x a b : Int) : Int := if x = 1 then b - a else b + a
def fL (a b : List Int) : List Int := List.zipWith fI a b
def gL : List Int → List Int → List Int → List Int
  | x :: xs, a :: l, b :: r => gI x a b :: gL xs l r
  | _, _, _ => []
/-- The bits that are found of 2^m numbers; what is not open is 0. -/
def decP : Nat → List Int → List Bool → List Int
  | 0, l, o => [if o.getD 0 false && decide (l.getD 0 0 < 0) then 1 else 0]
  | m + 1, l, o =>
    let u := decP m (fL (l.take (2 ^ m)) (l.drop (2 ^ m))) (o.take (2 ^ m))
    u ++ decP m (gL (turnM m u) (l.take (2 ^ m)) (l.drop (2 ^ m))) (o.drop (2 ^ m))
/-- Each number has the sign of its bit. -/
def Signs : List Int → List Int → Prop
  | [], [] => True
  | x :: l, c :: cs => (c = 0 → 0 < x) ∧ (c = 1 → x < 0) ∧ Signs l cs
  | _, _ => False
theorem Signs.take : ∀ {l c : List Int}, Signs l c → ∀ k, Signs (l.take k) (c.take k)
  | [], [], _, k => by simp [Signs]
  | [], _ :: _, h, _ => h.elim
  | _ :: _, [], h, _ => h.elim
  | _ :: _, _ :: _, _, 0 => trivial
  | _ :: _, _ :: _, h, k + 1 => ⟨h.1, h.2.1, Signs.take h.2.2 k⟩
theorem Signs.drop : ∀ {l c : List Int}, Signs l c → ∀ k, Signs (l.drop k) (c.drop k)
  | [], [], _, k => by simp [Signs]
  | [], _ :: _, h, _ => h.elim
  | _ :: _, [], h, _ => h.elim
  | _ :: _, _ :: _, h, 0 => h
  | _ :: _, _ :: _, h, k + 1 => Signs.drop h.2.2 k
end Go.Proofs.YtplkmkbambbemadGreatDoor
