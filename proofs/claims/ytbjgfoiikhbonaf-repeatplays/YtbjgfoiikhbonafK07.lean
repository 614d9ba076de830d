import Derived.Test.YtbjgfoiikhbonafK06
import Derived.Shelf.RegionOpen
import Derived.Deep.RegionHeld3
set_option linter.unusedVariables false
set_option linter.unusedSimpArgs false
namespace Go.Proofs.Ytbjgfoiikhbonaf
open Go.ChangeShapes Go.WideShapes Go.ChangeAt Go.RowKit
def byteO (d : Option UInt8) : Int := match d with
  | none => 0
  | some b => (b.toNat : Int)
theorem TakenM.has_iff {t : TakenM} (h : t.ok) (u i : Nat) : t.has u i = true ↔ t.u = u ∧ t.p.frm ≤ (i : Int) ∧ (i : Int) < t.p.frm + (t.p.data.size : Int) := by
  unfold TakenM.has PieceM.a PieceM.b
  have := h.1
  simp only [Bool.and_eq_true, beq_iff_eq, decide_eq_true_eq]
  constructor
  · rintro ⟨h1, h2, h3⟩
    exact ⟨h1, by omega, by omega⟩
  · rintro ⟨h1, h2, h3⟩
    exact ⟨h1, by omega, by omega⟩
set_option maxRecDepth 100000 in
set_option maxHeartbeats 4000000 in
theorem rat_any {w : World} {B g : Nat} {vl : Value} {win fst : Nat} {ts : List TakenM} (u i : Nat) (h : RIn w B g vl win fst ts) (hl : ts.length ≤ manyU) (hu : u ≤ manyU + 64) (hi : i ≤ 1500) :
    Calls Try.prog 46 #[.pointer (some ⟨g, 0, none⟩), .int .i64 (u : Int), .int .i64 (i : Int)] w fun e w' => e = .returned (.tuple #[.int .u8 (byteO (atL u i ts)), .bool (atL u i ts).isSome]) ∧ Below w.heap.size w w' := by
  obtain ⟨a, c, ev, -, -, -⟩ := row_shape h.own
  subst ev
  have H := hid h
  obtain ⟨nt, ent⟩ : ∃ nt, nt = ts.length := ⟨_, rfl⟩
  have hnt : nt ≤ 70368744177664 := by rw [ent]; exact hl
  have HNT := hid ent
  have hu2 : u ≤ 70368744177664 + 64 := hu
  have hlt := h.lt
  obtain ⟨-, -, c2⟩ := h.cells
  rw [← ent] at c2
  clear h hl ent hu
  go_enter Try.func46, Try.ntmps46
  go_wp2_with fail
  go_loopw [8] (fun vi wr => ∃ k : Nat, k ≤ nt ∧ vi = .int .i64 k ∧ Hid (atL u i (ts.take k) = none) ∧ Below w.heap.size w wr) (fun vi _ => nt - (intOf vi).toNat)
  case atStart => exact ⟨0, by omega, rfl, rfl, Below.refl _ w⟩
  case round =>
    obtain ⟨k, hk, rfl, HN, hb⟩ := hrel
    have k2 := (World.cell?_of_block (hb.block g hlt)).trans c2
    by_cases hkn : k < nt
    · have hkl : k < ts.length := by rw [← HNT.out]; exact hkn
      obtain ⟨gl, rfl, hgl, q0, q1, q2, q3, q4⟩ := row_tks H.out.own hkl
      have p0 := (World.cell?_of_block (hb.block gl hgl)).trans q0
      have p1 := (World.cell?_of_block (hb.block gl hgl)).trans q1
      have p2 := (World.cell?_of_block (hb.block gl hgl)).trans q2
      have p3 := (World.cell?_of_block (hb.block gl hgl)).trans q3
      have p4 := (World.cell?_of_block (hb.block gl hgl)).trans q4
      clear q0 q1 q2 q3 q4
      have hok := H.out.ok _ (getD_mem hkl)
      have hhi := TakenM.has_iff hok u i
      have HS : Hid ((ts.getD k .zero).has u i = true → atL u i ts = some ((ts.getD k .zero).p.data.get! (i - (ts.getD k .zero).p.a))) := fun hh => atL_first hkl HN.out hh
      have HF : Hid ((ts.getD k .zero).has u i = false → atL u i (ts.take (k + 1)) = none) := fun hh => by
        rw [takeTn hkl, atL_snoc, HN.out, if_neg (by rw [hh]; exact Bool.false_ne_true)]; rfl
      obtain ⟨ok1, ok2, ok3⟩ := hok
      unfold manyU at ok3
      have HHI := hid hhi
      clear hhi
      generalize ts.getD k TakenM.zero = t at *
      have hbA : Below wr.heap.size wr (wr.alloc (.cells #[.int .i64 t.p.num, .int .i64 t.p.frm, .bool t.p.last, .string t.p.data] 64)) := (Below.refl _ wr).alloc (Nat.le_refl _) _
      obtain ⟨z0, z1, z2, z3⟩ := piece_new wr t.p
      have k3 := (hbA.cell (World.block_lt_of_cell? wr _ k2)).trans k2
      have r0 := (hbA.cell (World.block_lt_of_cell? wr _ p0)).trans p0
      have HB2 := hid (hb.trans (hbA.mono hb.size))
      clear hbA hgl
      by_cases hx : t.u = u
      · have x1 : ((t.u : Int) == (u : Int)) = true := by rw [hx]; simp
        by_cases hy : t.p.frm ≤ (i : Int)
        · have x2 : decide (t.p.frm ≤ (i : Int)) = true := decide_eq_true hy
          by_cases hz : (i : Int) < t.p.frm + (t.p.data.size : Int)
          · have x3 : decide ((i : Int) < t.p.frm + (t.p.data.size : Int)) = true := decide_eq_true hz
            go_wp2_with fail
            go_ret2
            have hin : ((i : Int) - t.p.frm).toNat < t.p.data.size := by omega
            have e0 := HS.out (HHI.out.2 ⟨hx, hy, hz⟩)
            have e1 : i - t.p.a = ((i : Int) - t.p.frm).toNat := by unfold PieceM.a; omega
            have eb : byteO (some (t.p.data.get! (i - t.p.a))) = (((t.p.data[((i : Int) - t.p.frm).toNat]'hin).toNat : Nat) : Int) := by
              show (((t.p.data.get! (i - t.p.a)).toNat : Nat) : Int) = _
              rw [e1, get_pos hin]
            rw [e0, eb]
            exact ⟨rfl, HB2.out⟩
          · have x3 : decide ((i : Int) < t.p.frm + (t.p.data.size : Int)) = false := decide_eq_false hz
            go_wp2_with fail
            exact ⟨⟨k + 1, by omega, by go_num, hid (HF.out (by cases e : t.has u i with | false => rfl | true => exact absurd (HHI.out.1 e).2.2 hz)), HB2.out⟩, by simp [intOf]; omega⟩
        · have x2 : decide (t.p.frm ≤ (i : Int)) = false := decide_eq_false hy
          go_wp2_with fail
          exact ⟨⟨k + 1, by omega, by go_num, hid (HF.out (by cases e : t.has u i with | false => rfl | true => exact absurd (HHI.out.1 e).2.1 hy)), HB2.out⟩, by simp [intOf]; omega⟩
      · have x1 : ((t.u : Int) == (u : Int)) = false := by rw [beq_eq_false_iff_ne]; omega
        go_wp2_with fail
        exact ⟨⟨k + 1, by omega, by go_num, hid (HF.out (by cases e : t.has u i with | false => rfl | true => exact absurd (HHI.out.1 e).1 hx)), HB2.out⟩, by simp [intOf]; omega⟩
    · go_wp2_with fail
      go_ret2
      have ek : ts.take k = ts := List.take_of_length_le (by rw [← HNT.out]; omega)
      have e0 : atL u i ts = none := by rw [← ek]; exact HN.out
      rw [e0]
      exact ⟨rfl, hb⟩
end Go.Proofs.Ytbjgfoiikhbonaf
namespace Go.Proofs.Ytbjgfoiikhbonaf
open Go.ChangeShapes Go.WideShapes Go.ChangeAt Go.RowKit
set_option maxHeartbeats 1000000 in
theorem rahead_any (num : Int) (beg : Nat) (w : World) (h0 : 0 ≤ num) (h1 : num ≤ 63) (hb : beg ≤ manyU) :
    Calls Try.prog 44 #[.int .i64 num, .int .i64 (beg : Int)] w fun e w' => e = .returned (.int .i64 ((aheadN num beg : Nat) : Int)) ∧ w' = w := by
  have hA : ((aheadN num beg : Nat) : Int) = if num - (beg : Int) % 64 < 0 then num - (beg : Int) % 64 + 64 else num - (beg : Int) % 64 := by
    unfold aheadN
    split <;> omega
  have HA := hid hA
  unfold manyU at hb
  clear hA
  by_cases hd : num - (beg : Int) % 64 < 0
  · have x1 : decide (num - (beg : Int) % 64 < 0) = true := decide_eq_true hd
    go_enter Try.func44, Try.ntmps44
    go_wp2_with fail
    go_ret
    rw [HA.out, if_pos hd]
    exact ⟨rfl, rfl⟩
  · have x1 : decide (num - (beg : Int) % 64 < 0) = false := decide_eq_false hd
    go_enter Try.func44, Try.ntmps44
    go_wp2_with fail
    go_ret
    rw [HA.out, if_neg (by omega)]
    exact ⟨rfl, rfl⟩
theorem emp_trueR {s : ByteArray} (h : s.size = 0) : s.toList.isEmpty = true := by
  rw [ByteArray.toList_eq]
  have : s.data.toList.length = 0 := by rw [Array.length_toList]; exact h
  rw [List.eq_nil_of_length_eq_zero this]
  rfl
set_option maxRecDepth 100000 in
set_option maxHeartbeats 4000000 in
/-- A piece that is none. -/
theorem rtake_bad (x : PieceM) (v : Value) (w : World) (hx : x.bad = true) (hf : -9223372036854775808 ≤ x.frm ∧ x.frm ≤ 9223372036854775807) (hd : x.data.size ≤ manyB) :
    Calls Try.prog 19 #[v, x.val] w fun e w' => e = .returned (.tuple #[.slice none 0 0, .int .i64 3]) ∧ Below w.heap.size w w' := by
  have hbd : x.num < 0 ∨ 63 < x.num ∨ x.frm < 0 ∨ 1500 < x.frm ∨ 1500 < x.frm + (x.data.size : Int) ∨ x.data.size = 0 := by
    unfold PieceM.bad at hx
    exact of_decide_eq_true hx
  have HBD := hid hbd
  have HB : Hid (Below w.heap.size w (w.alloc (.cells #[.int .i64 x.num, .int .i64 x.frm, .bool x.last, .string x.data] 64))) := (Below.refl _ w).alloc (Nat.le_refl _) _
  obtain ⟨z0, z1, z2, z3⟩ := piece_new w x
  unfold PieceM.val
  unfold manyB at hd
  clear hbd hx
  by_cases a1 : x.num < 0
  · have za1 : decide (x.num < 0) = true := decide_eq_true a1
    go_enter Try.func19, Try.ntmps19
    go_wp2_with fail
    go_ret2
    exact ⟨rfl, HB.out⟩
  · have za1 : decide (x.num < 0) = false := decide_eq_false a1
    by_cases a2 : 63 < x.num
    · have za2 : decide (63 < x.num) = true := decide_eq_true a2
      go_enter Try.func19, Try.ntmps19
      go_wp2_with fail
      go_ret2
      exact ⟨rfl, HB.out⟩
    · have za2 : decide (63 < x.num) = false := decide_eq_false a2
      by_cases a3 : x.frm < 0
      · have za3 : decide (x.frm < 0) = true := decide_eq_true a3
        go_enter Try.func19, Try.ntmps19
        go_wp2_with fail
        go_ret2
        exact ⟨rfl, HB.out⟩
      · have za3 : decide (x.frm < 0) = false := decide_eq_false a3
        by_cases a4 : 1500 < x.frm
        · have za4 : decide (1500 < x.frm) = true := decide_eq_true a4
          go_enter Try.func19, Try.ntmps19
          go_wp2_with fail
          go_ret2
          exact ⟨rfl, HB.out⟩
        · have za4 : decide (1500 < x.frm) = false := decide_eq_false a4
          by_cases a5 : 1500 < x.frm + (x.data.size : Int)
          · have za5 : decide (1500 < x.frm + (x.data.size : Int)) = true := decide_eq_true a5
            go_enter Try.func19, Try.ntmps19
            go_wp2_with fail
            go_ret2
            exact ⟨rfl, HB.out⟩
          · have za5 : decide (1500 < x.frm + (x.data.size : Int)) = false := decide_eq_false a5
            have a6 : x.data.size = 0 := by have := HBD.out; omega
            have za6 : x.data.toList.isEmpty = true := emp_trueR a6
            go_enter Try.func19, Try.ntmps19
            go_wp2_with fail
            go_ret2
            exact ⟨rfl, HB.out⟩
end Go.Proofs.Ytbjgfoiikhbonaf
namespace Go.Proofs.Ytbjgfoiikhbonaf
open Go.ChangeShapes Go.WideShapes Go.ChangeAt Go.RowKit
set_option maxRecDepth 100000 in
set_option maxHeartbeats 4000000 in
theorem rtake_old {w : World} {B g : Nat} {vl : Value} {win fst : Nat} {ts : List TakenM} (x : PieceM) (h : RIn w B g vl win fst ts) (hx : x.bad = false) (hf : fst ≤ manyU) (ho : win ≤ aheadN x.num fst) :
    Calls Try.prog 19 #[.pointer (some ⟨g, 0, none⟩), x.val] w fun e w' => e = .returned (.tuple #[.slice none 0 0, .int .i64 8]) ∧ Below w.heap.size w w' := by
  have hbd : ¬(x.num < 0 ∨ 63 < x.num ∨ x.frm < 0 ∨ 1500 < x.frm ∨ 1500 < x.frm + (x.data.size : Int) ∨ x.data.size = 0) := by
    unfold PieceM.bad at hx
    exact of_decide_eq_false hx
  have b1 : 0 ≤ x.num := by omega
  have b2 : x.num ≤ 63 := by omega
  have b3 : 0 ≤ x.frm := by omega
  have b4 : x.frm ≤ 1500 := by omega
  have b5 : x.frm + (x.data.size : Int) ≤ 1500 := by omega
  have z1 : decide (x.num < 0) = false := decide_eq_false (by omega)
  have z2 : decide (63 < x.num) = false := decide_eq_false (by omega)
  have z3 : decide (x.frm < 0) = false := decide_eq_false (by omega)
  have z4 : decide (1500 < x.frm) = false := decide_eq_false (by omega)
  have z5 : decide (1500 < x.frm + (x.data.size : Int)) = false := decide_eq_false (by omega)
  have z6 : x.data.toList.isEmpty = false := emp_falseR (by omega)
  have hah := fun wz => rahead_any x.num fst wz b1 b2 hf
  have hb : Below w.heap.size w (w.alloc (.cells #[.int .i64 x.num, .int .i64 x.frm, .bool x.last, .string x.data] 64)) := (Below.refl _ w).alloc (Nat.le_refl _) _
  obtain ⟨y0, y1, y2, y3⟩ := piece_new w x
  obtain ⟨c0, c1, -⟩ := h.cells
  have k0 := (hb.cell (World.block_lt_of_cell? w _ c0)).trans c0
  have k1 := (hb.cell (World.block_lt_of_cell? w _ c1)).trans c1
  have hal : aheadN x.num fst < 64 := by unfold aheadN; omega
  unfold manyU at hf
  unfold PieceM.val
  have HB := hid hb
  clear hbd hb hx h c0 c1
  generalize aheadN x.num fst = d at *
  go_enter Try.func19, Try.ntmps19
  go_wp2_with fail
  generalize (w.alloc (.cells #[.int .i64 x.num, .int .i64 x.frm, .bool x.last, .string x.data] 64)) = wA at *
  obtain ⟨bx, ebx⟩ : ∃ bx, bx = w.heap.size := ⟨_, rfl⟩
  rw [← ebx] at y0 y1 y2 y3
  rw [← ebx]
  have HBX := hid ebx
  clear ebx
  have HKp : Hid (∀ n, (wA.drewN n).cell? ⟨bx, 0, none⟩ = some (.int .i64 x.num) ∧ (wA.drewN n).cell? ⟨g, 1, none⟩ = some (.int .i64 (fst : Int))) := fun n => ⟨y0, k1⟩
  go_region_held3 (fun w' => w'.cell? ⟨bx, 0, none⟩ = some (.int .i64 x.num) ∧ w'.cell? ⟨g, 1, none⟩ = some (.int .i64 (fst : Int))) (first | exact ⟨y0, k1⟩ | exact HKp.out _) (first | (go_at_call 44; refine (hah _).mono ?_; rintro e w2 ⟨rfl, rfl⟩))
  go_wp2_with fail
  go_ret2
  exact ⟨rfl, HB.out.drew⟩
set_option maxRecDepth 100000 in
set_option maxHeartbeats 4000000 in
theorem rtake_clash {w : World} {B g : Nat} {vl : Value} {win fst : Nat} {ts : List TakenM} (x : PieceM) (h : RIn w B g vl win fst ts) (hx : x.bad = false) (hf : fst ≤ manyU) (ho : aheadN x.num fst < win) (hl : ts.length ≤ manyU) (hc : ((match lenL (fst + aheadN x.num fst) none ts with
      | none => false
      | some n => (x.last && n != x.b) || decide (n < x.b)) || (x.last && decide (x.b < finL (fst + aheadN x.num fst) 0 ts))) = true) :
    Calls Try.prog 19 #[.pointer (some ⟨g, 0, none⟩), x.val] w fun e w' => e = .returned (.tuple #[.slice none 0 0, .int .i64 3]) ∧ Below w.heap.size w w' := by
  have hbd : ¬(x.num < 0 ∨ 63 < x.num ∨ x.frm < 0 ∨ 1500 < x.frm ∨ 1500 < x.frm + (x.data.size : Int) ∨ x.data.size = 0) := by
    unfold PieceM.bad at hx
    exact of_decide_eq_false hx
  have b1 : 0 ≤ x.num := by omega
  have b2 : x.num ≤ 63 := by omega
  have b3 : 0 ≤ x.frm := by omega
  have b4 : x.frm ≤ 1500 := by omega
  have b5 : x.frm + (x.data.size : Int) ≤ 1500 := by omega
  have z1 : decide (x.num < 0) = false := decide_eq_false (by omega)
  have z2 : decide (63 < x.num) = false := decide_eq_false (by omega)
  have z3 : decide (x.frm < 0) = false := decide_eq_false (by omega)
  have z4 : decide (1500 < x.frm) = false := decide_eq_false (by omega)
  have z5 : decide (1500 < x.frm + (x.data.size : Int)) = false := decide_eq_false (by omega)
  have z6 : x.data.toList.isEmpty = false := emp_falseR (by omega)
  have hah := fun wz => rahead_any x.num fst wz b1 b2 hf
  have hb : Below w.heap.size w (w.alloc (.cells #[.int .i64 x.num, .int .i64 x.frm, .bool x.last, .string x.data] 64)) := (Below.refl _ w).alloc (Nat.le_refl _) _
  obtain ⟨y0, y1, y2, y3⟩ := piece_new w x
  obtain ⟨c0, c1, -⟩ := h.cells
  have k0 := (hb.cell (World.block_lt_of_cell? w _ c0)).trans c0
  have k1 := (hb.cell (World.block_lt_of_cell? w _ c1)).trans c1
  have hal : aheadN x.num fst < 64 := by unfold aheadN; omega
  have hR := (h.below hb).below ((Below.refl _ _).drew)
  have hle := rlength_any (fst + aheadN x.num fst) hR hl (by omega)
  have hxb : (x.b : Int) = x.frm + (x.data.size : Int) := by unfold PieceM.b; omega
  have hfl := finL_le (u := fst + aheadN x.num fst) ts 0 (by omega) h.ok
  unfold manyU at hf
  unfold PieceM.val
  have HB := hid hb
  clear hbd hb hx h c0 c1 hR hl
  generalize aheadN x.num fst = d at *
  have hcast : ((fst + d : Nat) : Int) = (fst : Int) + (d : Int) := by omega
  rw [hcast] at hle
  generalize lenL (fst + d) none ts = N at *
  generalize finL (fst + d) 0 ts = E at *
  generalize x.b = bb at *
  have HXB := hid hxb
  have HC := hid hc
  clear hcast hc
  go_enter Try.func19, Try.ntmps19
  go_wp2_with fail
  generalize (w.alloc (.cells #[.int .i64 x.num, .int .i64 x.frm, .bool x.last, .string x.data] 64)) = wA at *
  obtain ⟨bx, ebx⟩ : ∃ bx, bx = w.heap.size := ⟨_, rfl⟩
  rw [← ebx] at y0 y1 y2 y3
  rw [← ebx]
  have HBX := hid ebx
  clear ebx
  have HKp : Hid (∀ n, (wA.drewN n).cell? ⟨bx, 0, none⟩ = some (.int .i64 x.num) ∧ (wA.drewN n).cell? ⟨g, 1, none⟩ = some (.int .i64 (fst : Int))) := fun n => ⟨y0, k1⟩
  go_region_held3 (fun w' => w'.cell? ⟨bx, 0, none⟩ = some (.int .i64 x.num) ∧ w'.cell? ⟨g, 1, none⟩ = some (.int .i64 (fst : Int))) (first | exact ⟨y0, k1⟩ | exact HKp.out _) (first | (go_at_call 44; refine (hah _).mono ?_; rintro e w2 ⟨rfl, rfl⟩))
  go_upto_region 8 with (go_at_call 45; refine hle.mono ?_; rintro e w3 ⟨rfl, hb3⟩)
  have HB3 := hid (HB.out.drew.trans (hb3.mono HB.out.drew.size))
  have y2d : wA.drew.cell? ⟨bx, 2, none⟩ = some (.bool x.last) := y2
  have y2' := (hb3.cell (World.block_lt_of_cell? _ _ y2d)).trans y2d
  have hxb := HXB.out
  clear y0 y1 y2 y3 y2d k0 k1 hah hle hb3 HKp
  cases hN : N with
  | none =>
    have hc := HC.out
    rw [hN] at hc
    simp only [Bool.false_or, Bool.and_eq_true, decide_eq_true_eq] at hc
    obtain ⟨hla, hE⟩ := hc
    rw [hla] at y2'
    have x5 : decide (x.frm + (x.data.size : Int) < (E : Int)) = true := decide_eq_true (by omega)
    have HN : Hid (lenI none = -1) := rfl
    rw [HN.out]
    clear hE hla hN hxb
    go_wp2_with fail
    go_ret2
    exact ⟨rfl, HB3.out⟩
  | some n =>
    have hc := HC.out
    rw [hN] at hc
    simp only [Bool.or_eq_true, Bool.and_eq_true, decide_eq_true_eq, bne_iff_ne] at hc
    have HN : Hid (lenI (some n) = (n : Int)) := rfl
    rw [HN.out]
    have x0 : decide ((0 : Int) ≤ (n : Int)) = true := decide_eq_true (by omega)
    cases hla : x.last with
    | false =>
      rw [hla] at y2' hc
      have x1 : decide ((n : Int) < x.frm + (x.data.size : Int)) = true := decide_eq_true (by rcases hc with (⟨h, -⟩ | h) | ⟨h, -⟩; cases h; omega; cases h)
      clear hc hN hxb
      go_wp2_with fail
      go_ret2
      exact ⟨rfl, HB3.out⟩
    | true =>
      rw [hla] at y2' hc
      by_cases hnb : n = bb
      · have x1 : ((n : Int) != x.frm + (x.data.size : Int)) = false := by rw [← hxb, hnb]; simp
        have x2 : decide ((n : Int) < x.frm + (x.data.size : Int)) = false := decide_eq_false (by omega)
        have x5 : decide (x.frm + (x.data.size : Int) < (E : Int)) = true := decide_eq_true (by rcases hc with (⟨-, h⟩ | h) | ⟨-, h⟩; exact absurd hnb h; omega; omega)
        clear hc hN hxb
        go_wp2_with fail
        go_ret2
        exact ⟨rfl, HB3.out⟩
      · have x1 : ((n : Int) != x.frm + (x.data.size : Int)) = true := by rw [bne_iff_ne]; omega
        clear hc hN hxb
        go_wp2_with fail
        go_ret2
        exact ⟨rfl, HB3.out⟩
end Go.Proofs.Ytbjgfoiikhbonaf
