import Derived.Test.YtdndeegpbjlibadGreatDoorK02
import Derived.Test.YtdndeegpbjlibadGreatDoorK04
import Derived.Test.YtdndeegpbjlibadGreatDoorK03
import Derived.Test.YtdndeegpbjlibadGreatDoorK16
namespace Go.Proofs.YtdndeegpbjlibadGreatDoor
open Go.ChangeShapes Go.WideShapes Go.ChangeAt Go.RowKit

def powI (n : Int) : Bool := decide (n = 1 ∨ n = 2 ∨ n = 4 ∨ n = 8 ∨ n = 16 ∨ n = 32 ∨ n = 64 ∨ n = 128 ∨ n = 256 ∨ n = 512)
def sizeErr (n : Int) : Int := if powI n then 0 else 1
theorem pow_of {n : Int} (h : powI n = true) : ∃ m : Nat, m ≤ 9 ∧ n = ((2 ^ m : Nat) : Int) := by
  unfold powI at h
  simp only [decide_eq_true_eq] at h
  rcases h with h | h | h | h | h | h | h | h | h | h
  · exact ⟨0, by omega, h⟩
  · exact ⟨1, by omega, h⟩
  · exact ⟨2, by omega, h⟩
  · exact ⟨3, by omega, h⟩
  · exact ⟨4, by omega, h⟩
  · exact ⟨5, by omega, h⟩
  · exact ⟨6, by omega, h⟩
  · exact ⟨7, by omega, h⟩
  · exact ⟨8, by omega, h⟩
  · exact ⟨9, by omega, h⟩
theorem of_pow {m : Nat} (h : m ≤ 9) : powI ((2 ^ m : Nat) : Int) = true := by
  have : m = 0 ∨ m = 1 ∨ m = 2 ∨ m = 3 ∨ m = 4 ∨ m = 5 ∨ m = 6 ∨ m = 7 ∨ m = 8 ∨ m = 9 := by omega
  rcases this with rfl | rfl | rfl | rfl | rfl | rfl | rfl | rfl | rfl | rfl <;> rfl

theorem and_tab0 : ∀ k : Fin 513, 1 ≤ k.val → (bits BinOp.and IntKind.i64 (k.val : Int) ((k.val : Int) - 1) != 0) = !powI (k.val : Int) := by decide +kernel
theorem and_tab (n : Int) (h1 : 1 ≤ n) (h2 : n ≤ 512) : (bits BinOp.and IntKind.i64 n (n - 1) != 0) = !powI n := by
  have := and_tab0 ⟨n.toNat, by omega⟩ (by show 1 ≤ n.toNat; omega)
  simp only [show ((n.toNat : Nat) : Int) = n by omega] at this
  exact this

set_option maxRecDepth 100000 in
set_option maxHeartbeats 400000 in
theorem size_any (n : Int) (w : World) (hn : -9223372036854775808 ≤ n ∧ n ≤ 9223372036854775807) :
    Calls Tryz.prog 33 #[.int .i64 n] w fun e w' => e = .returned (.int .i64 (sizeErr n)) ∧ w = w' := by
  by_cases h1 : n < 1
  · have e : sizeErr n = 1 := by unfold sizeErr powI; rw [if_neg]; simp; omega
    rw [e]
    go_enter Tryz.func33, Tryz.ntmps33
    go_wp2
    go_ret
    exact ⟨rfl, rfl⟩
  · by_cases h2 : 512 < n
    · have e : sizeErr n = 1 := by unfold sizeErr powI; rw [if_neg]; simp; omega
      rw [e]
      have d1 : decide (n < 1) = false := decide_eq_false h1
      go_enter Tryz.func33, Tryz.ntmps33
      go_wp2
      go_ret
      exact ⟨rfl, rfl⟩
    · have d1 : decide (n < 1) = false := decide_eq_false h1
      have d2 : decide (512 < n) = false := decide_eq_false h2
      have HT := hid (and_tab n (by omega) (by omega))
      go_enter Tryz.func33, Tryz.ntmps33
      go_wp2
      · go_ret
        refine ⟨ret_int ?_, rfl⟩
        have e := HT.out.symm.trans ‹(bits BinOp.and IntKind.i64 n (n - 1) != 0) = _›
        unfold sizeErr
        cases hp : powI n
        · rfl
        · rw [hp] at e; cases e
      · go_ret
        refine ⟨ret_int ?_, rfl⟩
        have e := HT.out.symm.trans ‹(bits BinOp.and IntKind.i64 n (n - 1) != 0) = _›
        unfold sizeErr
        cases hp : powI n
        · rw [hp] at e; cases e
        · rfl

theorem AllBits.at {D : List Int} (h : AllBits D) (k : Nat) : 0 ≤ D.getD k 0 ∧ D.getD k 0 ≤ 1 := by
  by_cases hk : k < D.length
  · have e : D.getD k 0 = D[k] := by simp [List.getD, hk]
    rw [e]; exact h _ (List.getElem_mem hk)
  · have e : D.getD k 0 = 0 := by simp [List.getD, Nat.le_of_not_lt hk]
    rw [e]; omega
theorem AllBits.bits {D : List Int} (h : AllBits D) : Bits D := h.at
theorem AllBits.bytes {D : List Int} (h : AllBits D) : Bytes D := fun x hx => by have := h x hx; omega
theorem bits_all {zs : List Int} (h : Bits zs) : AllBits zs := fun x hx => by
  obtain ⟨k, hk, rfl⟩ := List.getElem_of_mem hx
  have := h k
  simpa [List.getD, hk] using this
theorem xor_tab {a x : Int} (ha : 0 ≤ a ∧ a ≤ 1) (hx : 0 ≤ x ∧ x ≤ 1) : bits BinOp.xor IntKind.u8 a x = (a + x) % 2 := by
  have h1 : a = 0 ∨ a = 1 := by omega
  have h2 : x = 0 ∨ x = 1 := by omega
  rcases h1 with rfl | rfl <;> rcases h2 with rfl | rfl <;> decide +kernel

/-- While halves are joined: k places are done. -/
def mixTo (x y : List Int) (k : Nat) : List Int := addL (x.take k) (y.take k) ++ x.drop k
theorem mix_zero (x y : List Int) : mixTo x y 0 = x := by simp [mixTo, addL]
theorem mix_all {x y : List Int} (h : x.length = y.length) : mixTo x y x.length = addL x y := by
  unfold mixTo
  rw [List.take_length, List.drop_length, List.append_nil, h, List.take_length]
theorem mix_length {x y : List Int} (h : x.length = y.length) (k : Nat) : (mixTo x y k).length = x.length := by
  simp only [mixTo, List.length_append, addL, List.length_zipWith, List.length_take, List.length_drop]
  omega
theorem mix_at {x y : List Int} (h : x.length = y.length) {k : Nat} (hk : k < x.length) : (mixTo x y k).getD k 0 = x.getD k 0 := by
  have hl : (addL (x.take k) (y.take k)).length = k := by simp [addL]; omega
  unfold mixTo List.getD
  rw [List.getElem?_append_right (by omega), hl, Nat.sub_self, List.getElem?_drop, Nat.add_zero]
theorem mix_set {x y : List Int} (h : x.length = y.length) {k : Nat} (hk : k < x.length) : (mixTo x y k).set k ((x.getD k 0 + y.getD k 0) % 2) = mixTo x y (k + 1) := by
  have hl : (addL (x.take k) (y.take k)).length = k := by simp [addL]; omega
  have hk' : k < y.length := by omega
  unfold mixTo
  rw [List.set_append_right _ _ (by omega), hl, Nat.sub_self, List.drop_eq_getElem_cons hk, List.set_cons_zero, List.take_succ_eq_append_getElem hk, List.take_succ_eq_append_getElem hk', addL_append (by simp; omega), List.append_assoc]
  simp [addL, List.getD, hk, hk']
theorem row_at {A x Z : List Int} {o k : Nat} (ho : A.length = o) (hk : k < x.length) : (A ++ x ++ Z).getD (o + k) 0 = x.getD k 0 := by
  subst ho
  unfold List.getD
  rw [List.append_assoc, List.getElem?_append_right (by omega), Nat.add_sub_cancel_left, List.getElem?_append_left hk]
theorem row_set {A x Z : List Int} {o k : Nat} (ho : A.length = o) (hk : k < x.length) (v : Int) : (A ++ x ++ Z).set (o + k) v = A ++ x.set k v ++ Z := by
  subst ho
  rw [List.append_assoc, List.set_append_right _ _ (by omega), Nat.add_sub_cancel_left, List.set_append_left _ _ hk, List.append_assoc]

set_option maxRecDepth 100000 in
set_option maxHeartbeats 1000000 in
theorem join_any (A x y Z : List Int) (g o n c h : Nat) (w : World) (harr : ArrAt .u8 5 w g (A ++ (x ++ y) ++ Z)) (hA : A.length = o) (hx : x.length = h) (hy : y.length = h) (hn : n = h + h) (h0 : 1 ≤ h) (hb : n ≤ 512) (hc : n ≤ c)
    (bx : AllBits x) (bY : AllBits y) :
    Calls Tryz.prog 52 #[.slice (some ⟨g, o, none⟩) n c] w fun e w' => e = .returned (.tuple #[]) ∧ ArrAt .u8 5 w' g (A ++ (addL x y ++ y) ++ Z) ∧ Kept [g] w w' := by
  have hq : (n : Int).tdiv 2 = (h : Int) := by rw [Int.tdiv_eq_ediv_of_nonneg (by omega)]; omega
  have hle : h ≤ n := by omega
  have hne : ¬ c = h := by omega
  have HA := hid hA
  have HX := hid hx
  have HY := hid hy
  have HN := hid hn
  have HXY := hid (hx.trans hy.symm)
  clear hA hx hy hn
  go_enter Tryz.func52, Tryz.ntmps52
  go_wp2
  go_loopw [12] (fun q wr => ∃ k : Nat, k ≤ h ∧ q = .int .i64 k ∧ ArrAt .u8 5 wr g (A ++ (mixTo x y k ++ y) ++ Z) ∧ Kept [g] w wr) (fun q _ => h - (intOf q).toNat)
  case atStart => exact ⟨0, Nat.zero_le _, rfl, by rw [mix_zero]; exact harr, Kept.refl _ _⟩
  case round =>
    obtain ⟨k, hk, rfl, hr, hkept⟩ := hrel
    have HM := hid (mix_length HXY.out k)
    by_cases hlt : k < h
    · have hlt' : k < n - h := by have := HN.out; omega
      have hltn : k < n := by omega
      have cx : wr.cell? ⟨g, o + k, none⟩ = some (.int .u8 (x.getD k 0)) := by
        rw [hr.cell (by simp [HM.out, HA.out, HX.out]; omega), row_at HA.out (by rw [List.length_append, HM.out, HX.out]; omega)]
        rw [← mix_at HXY.out (k := k) (by rw [HX.out]; exact hlt)]
        unfold List.getD
        rw [List.getElem?_append_left (by rw [HM.out, HX.out]; exact hlt)]
      have cy : wr.cell? ⟨g, o + h + k, none⟩ = some (.int .u8 (y.getD k 0)) := by
        rw [Nat.add_assoc, hr.cell (by simp [HM.out, HA.out, HX.out, HY.out]; omega), row_at HA.out (by rw [List.length_append, HM.out, HX.out, HY.out]; omega)]
        unfold List.getD
        rw [List.getElem?_append_right (by rw [HM.out, HX.out]; omega), HM.out, HX.out, Nat.add_sub_cancel_left]
      have hf := hr.free (o + k)
      have hbx := bx.at k
      have hby := bY.at k
      have hset := hr.set (o + k) ((x.getD k 0 + y.getD k 0) % 2)
      rw [row_set HA.out (by rw [List.length_append, HM.out, HX.out]; omega), List.set_append_left _ _ (by rw [HM.out, HX.out]; exact hlt), mix_set HXY.out (by rw [HX.out]; exact hlt)] at hset
      have hkept' := hkept.setCell (p := ⟨g, o + k, none⟩) (by simp) (.int .u8 ((x.getD k 0 + y.getD k 0) % 2))
      obtain ⟨p, ep⟩ : ∃ p, p = x.getD k 0 := ⟨_, rfl⟩
      obtain ⟨q, eq⟩ : ∃ q, q = y.getD k 0 := ⟨_, rfl⟩
      rw [← ep] at cx hbx
      rw [← eq] at cy hby
      rw [← ep, ← eq] at hset hkept'
      have hxr := xor_tab hbx hby
      clear ep eq hr hkept
      go_wp2
      go_roundw
      case rel => exact ⟨k + 1, by omega, by go_num, hset, hkept'⟩
      case measure => simp [intOf]; omega
    · obtain rfl : k = h := by omega
      have hge : ¬ k < n - k := by have := HN.out; omega
      go_wp2
      go_end0
      refine ⟨rfl, ?_, hkept⟩
      rw [← mix_all HXY.out, HX.out]
      exact hr

set_option maxRecDepth 100000 in
set_option maxHeartbeats 1000000 in
theorem turn_in : ∀ (m : Nat) (A x Z : List Int) (g o n c : Nat) (w : World), ArrAt .u8 5 w g (A ++ x ++ Z) → A.length = o → x.length = n → n = 2 ^ m → n ≤ 512 → n ≤ c → AllBits x →
    Calls Tryz.prog 34 #[.slice (some ⟨g, o, none⟩) n c] w fun e w' => e = .returned (.tuple #[]) ∧ ArrAt .u8 5 w' g (A ++ turnM m x ++ Z) ∧ Kept [g] w w'
  | 0, A, x, Z, g, o, n, c, w, harr, hA, hx, hn, hb, hc, bx => by
    obtain rfl : n = 1 := hn
    have HX := hid hx
    clear hx
    go_enter Tryz.func34, Tryz.ntmps34
    go_wp2
    refine bodyPost_ret (results_none rfl _ _ _) rfl ?_
    exact ⟨rfl, harr, Kept.refl _ _⟩
  | m + 1, A, x, Z, g, o, n, c, w, harr, hA, hx, hn, hb, hc, bx => by
    obtain ⟨h, eh⟩ : ∃ h, h = 2 ^ m := ⟨_, rfl⟩
    have h0 : 1 ≤ h := by rw [eh]; exact Nat.one_le_two_pow
    have hnh : n = h + h := by rw [hn, eh, Nat.pow_succ]; omega
    have l1 : (x.take h).length = h := by rw [List.length_take]; omega
    have l2 : (x.drop h).length = h := by rw [List.length_drop]; omega
    have b1 : AllBits (x.take h) := fun y hy => bx y (List.mem_of_mem_take hy)
    have b2 : AllBits (x.drop h) := fun y hy => bx y (List.mem_of_mem_drop hy)
    have hT : turnM (m + 1) x = addL (turnM m (x.take h)) (turnM m (x.drop h)) ++ turnM m (x.drop h) := by rw [turnM, eh]
    have t1 := turn_length m (x.take h) (l1.trans eh)
    have t2 := turn_length m (x.drop h) (l2.trans eh)
    rw [← eh] at t1 t2
    have c1 := turn_bits m _ b1
    have c2 := turn_bits m _ b2
    have hsp : x = x.take h ++ x.drop h := (List.take_append_drop h x).symm
    rw [hsp] at harr
    rw [hT]
    have ih1 := fun w' ha => turn_in m A (x.take h) (x.drop h ++ Z) g o h c w' ha hA l1 eh (by omega) (by omega) b1
    have ih2 := fun w' ha => turn_in m (A ++ turnM m (x.take h)) (x.drop h) Z g (o + h) h (c - h) w' ha (by rw [List.length_append, hA, t1]) l2 eh (by omega) (by omega) b2
    generalize x.take h = x1 at *
    generalize x.drop h = x2 at *
    generalize turnM m x1 = y1 at *
    generalize turnM m x2 = y2 at *
    have hj := fun w' ha => join_any A y1 y2 Z g o n c h w' ha hA t1 t2 hnh h0 hb hc c1 c2
    have hq : (n : Int).tdiv 2 = (h : Int) := by rw [Int.tdiv_eq_ediv_of_nonneg (by omega)]; omega
    have hle : h ≤ n := by omega
    have hlc : h ≤ c := by omega
    have hne : ¬ c = h := by omega
    have hn1 : ((n : Int) == 1) = false := by simp; omega
    have HNH := hid (show n - h = h by omega)
    clear hn hnh hx eh hsp hT l1 l2 t1 t2 hA
    have e1 : A ++ (x1 ++ x2) ++ Z = A ++ x1 ++ (x2 ++ Z) := by simp
    have e2 : A ++ y1 ++ (x2 ++ Z) = A ++ y1 ++ x2 ++ Z := by simp
    have e3 : A ++ y1 ++ y2 ++ Z = A ++ (y1 ++ y2) ++ Z := by simp
    rw [e1] at harr
    rw [e2] at ih1
    rw [e3] at ih2
    clear e1 e2 e3
    have tok : True := trivial
    go_enter Tryz.func34, Tryz.ntmps34
    go_wp2_with (first
      | (go_at_call 34; have _t := tok; refine (ih1 _ harr).mono ?_; rintro e w1 ⟨rfl, hr1, hk1⟩; clear tok)
      | (go_at_call 34; rw [HNH.out]; refine (ih2 _ hr1).mono ?_; rintro e w2 ⟨rfl, hr2, hk2⟩)
      | (go_at_call 52; refine (hj _ hr2).mono ?_; rintro e w3 ⟨rfl, hr3, hk3⟩))
    go_end0
    exact ⟨rfl, hr3, (hk1.trans hk2).trans hk3⟩

/-- What is wrong with bits that are to be turned. -/
def turnErr (zs : List Int) : Int := if errOf zs = 0 then sizeErr zs.length else errOf zs

set_option maxRecDepth 100000 in
set_option maxHeartbeats 1000000 in
theorem pturn_bad (zs : List Int) (a : Option Addr) (c : Nat) (w : World) (ha : Rd .u8 w a zs) (hz : zs.length ≤ maxLen) (hE : turnErr zs ≠ 0) :
    Calls Tryz.prog 13 #[.slice a zs.length c] w fun e w' => e = .returned (.tuple #[.slice none 0 0, .int .i64 (turnErr zs)]) ∧ w = w' := by
  have hmx : zs.length ≤ 9223372036854775807 := by unfold maxLen at hz; omega
  by_cases h0 : errOf zs = 0
  · have hT : turnErr zs = sizeErr zs.length := by unfold turnErr; rw [if_pos h0]
    rw [hT] at hE ⊢
    have hne : (sizeErr zs.length != 0) = true := by simpa using hE
    go_enter Tryz.func13, Tryz.ntmps13
    go_wp2_with (first | (go_at_call 28; refine (check_any zs a c w ha hz).mono ?_; rintro e w1 ⟨rfl, rfl⟩; rw [h0]) | (go_at_call 33; refine (size_any _ _ (by omega)).mono ?_; rintro e w1 ⟨rfl, rfl⟩))
    go_ret2
    exact ⟨rfl, rfl⟩
  · have hT : turnErr zs = errOf zs := by unfold turnErr; rw [if_neg h0]
    rw [hT]
    have hne : (errOf zs != 0) = true := by simpa using h0
    clear hE hT h0
    go_enter Tryz.func13, Tryz.ntmps13
    go_wp2_with (first | (go_at_call 28; refine (check_any zs a c w ha hz).mono ?_; rintro e w1 ⟨rfl, rfl⟩))
    go_ret2
    exact ⟨rfl, rfl⟩

theorem turn_ok {zs : List Int} (hy : Bytes zs) (h : turnErr zs = 0) : errOf zs = 0 ∧ sizeErr zs.length = 0 ∧ AllBits zs ∧ ∃ m, m ≤ 9 ∧ zs.length = 2 ^ m := by
  unfold turnErr at h
  split at h
  · rename_i h0
    refine ⟨h0, h, fun x hx => ?_, ?_⟩
    · obtain ⟨k, hk, rfl⟩ := List.getElem_of_mem hx
      have h1 := (err_zero h0).1 k
      have h2 := hy.at k
      have e : zs.getD k 0 = zs[k] := by simp [List.getD, hk]
      rw [e] at h1 h2
      omega
    · unfold sizeErr at h
      split at h
      · rename_i hp
        obtain ⟨m, hm, e⟩ := pow_of hp
        exact ⟨m, hm, by omega⟩
      · omega
  · rename_i h0
    exact absurd h h0

theorem laid_all {M : List Int} {n : Nat} (h : M.length = n) : laidOver (List.replicate n 0) 0 (M.take n) = M := by
  subst h
  simp [laidOver]

set_option maxRecDepth 100000 in
set_option maxHeartbeats 1000000 in
theorem pturn_any (m : Nat) (zs : List Int) (a : Option Addr) (n c : Nat) (w : World) (ha : Rd .u8 w a zs) (hl : zs.length = n) (hn : n = 2 ^ m) (hm : m ≤ 9) (hb : AllBits zs) :
    Calls Tryz.prog 13 #[.slice a n c] w fun e w' => ∃ g, e = .returned (.tuple #[.slice (some ⟨g, 0, none⟩) n n, .int .i64 0]) ∧ Own w' w.heap.size (.slice (some ⟨g, 0, none⟩) n n) (turnM m zs) ∧ Below w.heap.size w w' := by
  have hn9 : n ≤ 512 := by rw [hn]; exact Nat.pow_le_pow_right (by omega) hm
  have hE0 : errOf zs = 0 := by
    refine err_none (fun j hj => (hb.at j).2) ?_
    omega
  have hS0 : sizeErr (n : Int) = 0 := by unfold sizeErr; rw [hn, of_pow hm]; rfl
  have hck := check_any zs a c w ha (by unfold maxLen; omega)
  rw [hE0, hl] at hck
  have hsz := size_any (n : Int) w (by omega)
  rw [hS0] at hsz
  have HL := hid hl
  have HN := hid hn
  clear hl hn hS0 hE0
  go_enter Tryz.func13, Tryz.ntmps13
  go_wp2_with (first
    | (go_at_call 28; refine hck.mono ?_; rintro e w1 ⟨rfl, rfl⟩)
    | (go_at_call 33; refine hsz.mono ?_; rintro e w1 ⟨rfl, rfl⟩)
    | (refine wpList_makeBytes w.heap.size w n rfl _ _ rfl _ _ rfl rfl rfl rfl (by omega) (Below.refl _ _) (Nat.le_refl _) ?_; intro w1 hown1 hbel1 hlt1)
    | (refine wpList_copyBytes w hown1 (ha.below hbel1) rfl (.tmp 21) (.tmp 22) rfl _ n n c 0 n (by rw [HL.out]; omega) rfl (by rw [HL.out]; rfl) (fun _ => rfl) (by omega) hbel1 ?_; intro w2 hown2 hbel2 hlt2; rw [laid_all HL.out] at hown2)
    | (go_at_call 34; refine (turn_in m [] zs [] w.heap.size 0 n n _ (by simpa using hown2.arr.1) rfl HL.out HN.out hn9 (Nat.le_refl _) hb).mono ?_; rintro e w3 ⟨rfl, hr3, hk3⟩))
  go_ret2
  refine ⟨w.heap.size, rfl, ?_, hbel2.trans (hk3.below (by omega) (by simp))⟩
  rw [List.nil_append, List.append_nil] at hr3
  exact own_of_arr hr3 (Nat.le_refl _) ((turn_length m zs (HL.out.trans HN.out)).trans HN.out.symm) (by unfold maxLen; omega)
end Go.Proofs.YtdndeegpbjlibadGreatDoor
