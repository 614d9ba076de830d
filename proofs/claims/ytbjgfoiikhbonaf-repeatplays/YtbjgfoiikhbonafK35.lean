import Derived.Test.YtbjgfoiikhbonafK16
import Derived.Test.YtbjgfoiikhbonafK34
import Derived.Laws.ResultCell
set_option linter.unusedVariables false
set_option linter.unusedSimpArgs false
namespace Go.Proofs.Ytbjgfoiikhbonaf
open Go.ChangeShapes Go.WideShapes Go.ChangeAt Go.RowKit
def pieceV (num a : Nat) (last : Bool) (d : ByteArray) : Value := .agg #[.int .i64 (num : Int), .int .i64 (a : Int), .bool last, .string d]
set_option maxHeartbeats 8000000 in
set_option maxRecDepth 100000 in
theorem piece_any {w : World} {b win bg : Nat} {ua : Option Addr} {c : Nat} {us : List UnP} {i a z : Nat} (h : PSnd w b win bg ua c us) (hi : i < us.length) (hi2 : i ≤ 4000) (hbg : bg < 64) (haz : a ≤ z) (hz : z ≤ (us.getD i .zero).text.size) (_hs : (us.getD i .zero).text.size ≤ 1500) :
    Calls Try.prog 36 #[.pointer (some ⟨b, 0, none⟩), .int .i64 (i : Int), .agg #[.int .i64 (a : Int), .int .i64 (z : Int)]] w fun e w' => e = .returned (pieceV ((bg + i) % 64) a (decide (z = (us.getD i .zero).text.size)) ((us.getD i .zero).text.extract a z)) ∧ Below w.heap.size w w' := by
  obtain ⟨-, c1, c2⟩ := h.head
  obtain ⟨g, rfl, hgb, hu⟩ := h.un hi
  have u0 := hu.c0
  have hbl := h.hd.lt
  have hgl : g < w.heap.size := World.block_lt_of_cell? w _ u0
  clear h hu
  generalize (us.getD i .zero).text = t at *
  generalize us.length = N at *
  have hbh := fun W => behind_any (n := bg) (k := i) W hbg hi2
  have hbq : ((z : Int) == (t.size : Int)) = decide (z = t.size) := by
    by_cases e : z = t.size
    · simp [e]
    · rw [decide_eq_false e, beq_eq_false_iff_ne]
      omega
  generalize decide (z = t.size) = D at *
  generalize (bg + i) % 64 = M at *
  have hin1 : a ≤ t.size := by omega
  go_enter Try.func36, Try.ntmps36
  go_upto_region 2 with fail
  have f1 : Kept [] w ((w.alloc (.cells #[.int .i64 (a : Int), .int .i64 (z : Int)] 114)).alloc (.cells #[.int .i64 0, .int .i64 0, .bool false, .string { data := #[] }] 64)) := ((Kept.refl _ w).alloc _).alloc _
  have f2 : At ((w.alloc (.cells #[.int .i64 (a : Int), .int .i64 (z : Int)] 114)).alloc (.cells #[.int .i64 0, .int .i64 0, .bool false, .string { data := #[] }] 64)) w.heap.size 114 [.int .i64 (a : Int), .int .i64 (z : Int)] := (at_alloc w _ _).kept (S := []) ((Kept.refl _ _).alloc _) (by simp)
  have f3 : At ((w.alloc (.cells #[.int .i64 (a : Int), .int .i64 (z : Int)] 114)).alloc (.cells #[.int .i64 0, .int .i64 0, .bool false, .string { data := #[] }] 64)) (w.heap.size + 1) 64 [.int .i64 0, .int .i64 0, .bool false, .string { data := #[] }] := by
    have := at_alloc (w.alloc (.cells #[.int .i64 (a : Int), .int .i64 (z : Int)] 114)) 64 [.int .i64 0, .int .i64 0, .bool false, .string { data := #[] }]
    rw [World.size_alloc] at this
    exact this
  generalize (w.alloc (.cells #[.int .i64 (a : Int), .int .i64 (z : Int)] 114)).alloc (.cells #[.int .i64 0, .int .i64 0, .bool false, .string { data := #[] }] 64) = W at *
  have k1 := keptCellQ f1 c1 (by simp)
  have x0 : W.cell? ⟨w.heap.size, 0, none⟩ = some (.int .i64 (a : Int)) := f2.cell 0
  have x1 : W.cell? ⟨w.heap.size, 1, none⟩ = some (.int .i64 (z : Int)) := f2.cell 1
  have y0 : W.cell? ⟨w.heap.size + 1, 0, none⟩ = some (.int .i64 0) := f3.cell 0
  have y1 : W.cell? ⟨w.heap.size + 1, 1, none⟩ = some (.int .i64 0) := f3.cell 1
  have y2 : W.cell? ⟨w.heap.size + 1, 2, none⟩ = some (.bool false) := f3.cell 2
  have y3 : W.cell? ⟨w.heap.size + 1, 3, none⟩ = some (.string { data := #[] }) := f3.cell 3
  have g0 := f3.free 0
  have g1 := f3.free 1
  have g2 := f3.free 2
  have g3 := f3.free 3
  have F1 := hid f1
  have F3 := hid f3
  clear f1 f2 f3 c1 c2 u0 hgb hgl
  have HKp : Hid (∀ n, (W.drewN n).cell? ⟨b, 1, none⟩ = some (.int .i64 (bg : Int)) ∧ (W.drewN n).cell? ⟨w.heap.size, 0, none⟩ = some (.int .i64 (a : Int)) ∧ (W.drewN n).cell? ⟨w.heap.size, 1, none⟩ = some (.int .i64 (z : Int))) := fun n => ⟨k1, x0, x1⟩
  have HK0 : Hid (W.cell? ⟨b, 1, none⟩ = some (.int .i64 (bg : Int)) ∧ W.cell? ⟨w.heap.size, 0, none⟩ = some (.int .i64 (a : Int)) ∧ W.cell? ⟨w.heap.size, 1, none⟩ = some (.int .i64 (z : Int))) := ⟨k1, x0, x1⟩
  have HKd : Hid (W.drew.cell? ⟨b, 1, none⟩ = some (.int .i64 (bg : Int)) ∧ W.drew.cell? ⟨w.heap.size, 0, none⟩ = some (.int .i64 (a : Int)) ∧ W.drew.cell? ⟨w.heap.size, 1, none⟩ = some (.int .i64 (z : Int))) := ⟨k1, x0, x1⟩
  have hbN1 : ¬ (b = w.heap.size + 1) := by omega
  have HKs : Hid (∀ n (v0 v1 v2 v3 : Value), (((((W.drewN n).setCell ⟨w.heap.size + 1, 0, none⟩ v0).setCell ⟨w.heap.size + 1, 1, none⟩ v1).setCell ⟨w.heap.size + 1, 2, none⟩ v2).setCell ⟨w.heap.size + 1, 3, none⟩ v3).cell? ⟨b, 1, none⟩ = some (.int .i64 (bg : Int)) ∧ (((((W.drewN n).setCell ⟨w.heap.size + 1, 0, none⟩ v0).setCell ⟨w.heap.size + 1, 1, none⟩ v1).setCell ⟨w.heap.size + 1, 2, none⟩ v2).setCell ⟨w.heap.size + 1, 3, none⟩ v3).cell? ⟨w.heap.size, 0, none⟩ = some (.int .i64 (a : Int)) ∧ (((((W.drewN n).setCell ⟨w.heap.size + 1, 0, none⟩ v0).setCell ⟨w.heap.size + 1, 1, none⟩ v1).setCell ⟨w.heap.size + 1, 2, none⟩ v2).setCell ⟨w.heap.size + 1, 3, none⟩ v3).cell? ⟨w.heap.size, 1, none⟩ = some (.int .i64 (z : Int))) := fun n v0 v1 v2 v3 => by
    have hkk : Kept [w.heap.size + 1] W (((((W.drewN n).setCell ⟨w.heap.size + 1, 0, none⟩ v0).setCell ⟨w.heap.size + 1, 1, none⟩ v1).setCell ⟨w.heap.size + 1, 2, none⟩ v2).setCell ⟨w.heap.size + 1, 3, none⟩ v3) := (((((Kept.refl _ W).drewN n).setCell (by simp) _).setCell (by simp) _).setCell (by simp) _).setCell (by simp) _
    exact ⟨keptCellQ hkk k1 (by simp; omega), keptCellQ hkk x0 (by simp), keptCellQ hkk x1 (by simp)⟩
  have HKt : Hid (∀ (v0 v1 v2 v3 : Value), ((((W.drew.setCell ⟨w.heap.size + 1, 0, none⟩ v0).setCell ⟨w.heap.size + 1, 1, none⟩ v1).setCell ⟨w.heap.size + 1, 2, none⟩ v2).setCell ⟨w.heap.size + 1, 3, none⟩ v3).cell? ⟨b, 1, none⟩ = some (.int .i64 (bg : Int)) ∧ ((((W.drew.setCell ⟨w.heap.size + 1, 0, none⟩ v0).setCell ⟨w.heap.size + 1, 1, none⟩ v1).setCell ⟨w.heap.size + 1, 2, none⟩ v2).setCell ⟨w.heap.size + 1, 3, none⟩ v3).cell? ⟨w.heap.size, 0, none⟩ = some (.int .i64 (a : Int)) ∧ ((((W.drew.setCell ⟨w.heap.size + 1, 0, none⟩ v0).setCell ⟨w.heap.size + 1, 1, none⟩ v1).setCell ⟨w.heap.size + 1, 2, none⟩ v2).setCell ⟨w.heap.size + 1, 3, none⟩ v3).cell? ⟨w.heap.size, 1, none⟩ = some (.int .i64 (z : Int))) := fun v0 v1 v2 v3 => by
    have hkk : Kept [w.heap.size + 1] W ((((W.drew.setCell ⟨w.heap.size + 1, 0, none⟩ v0).setCell ⟨w.heap.size + 1, 1, none⟩ v1).setCell ⟨w.heap.size + 1, 2, none⟩ v2).setCell ⟨w.heap.size + 1, 3, none⟩ v3) := ((((Kept.refl _ W).drew.setCell (by simp) _).setCell (by simp) _).setCell (by simp) _).setCell (by simp) _
    exact ⟨keptCellQ hkk k1 (by simp; omega), keptCellQ hkk x0 (by simp), keptCellQ hkk x1 (by simp)⟩
  have HKu : Hid (∀ (v0 v1 v2 v3 : Value), ((((W.setCell ⟨w.heap.size + 1, 0, none⟩ v0).setCell ⟨w.heap.size + 1, 1, none⟩ v1).setCell ⟨w.heap.size + 1, 2, none⟩ v2).setCell ⟨w.heap.size + 1, 3, none⟩ v3).drew.cell? ⟨b, 1, none⟩ = some (.int .i64 (bg : Int)) ∧ ((((W.setCell ⟨w.heap.size + 1, 0, none⟩ v0).setCell ⟨w.heap.size + 1, 1, none⟩ v1).setCell ⟨w.heap.size + 1, 2, none⟩ v2).setCell ⟨w.heap.size + 1, 3, none⟩ v3).drew.cell? ⟨w.heap.size, 0, none⟩ = some (.int .i64 (a : Int)) ∧ ((((W.setCell ⟨w.heap.size + 1, 0, none⟩ v0).setCell ⟨w.heap.size + 1, 1, none⟩ v1).setCell ⟨w.heap.size + 1, 2, none⟩ v2).setCell ⟨w.heap.size + 1, 3, none⟩ v3).drew.cell? ⟨w.heap.size, 1, none⟩ = some (.int .i64 (z : Int))) := fun v0 v1 v2 v3 => by
    have hkk : Kept [w.heap.size + 1] W ((((W.setCell ⟨w.heap.size + 1, 0, none⟩ v0).setCell ⟨w.heap.size + 1, 1, none⟩ v1).setCell ⟨w.heap.size + 1, 2, none⟩ v2).setCell ⟨w.heap.size + 1, 3, none⟩ v3).drew := (((((Kept.refl _ W).setCell (by simp) _).setCell (by simp) _).setCell (by simp) _).setCell (by simp) _).drew
    exact ⟨keptCellQ hkk k1 (by simp; omega), keptCellQ hkk x0 (by simp), keptCellQ hkk x1 (by simp)⟩
  go_region_held3 (fun w' => w'.cell? ⟨b, 1, none⟩ = some (.int .i64 (bg : Int)) ∧ w'.cell? ⟨w.heap.size, 0, none⟩ = some (.int .i64 (a : Int)) ∧ w'.cell? ⟨w.heap.size, 1, none⟩ = some (.int .i64 (z : Int))) (first | with_reducible exact HK0.out | with_reducible exact HKd.out | with_reducible exact HKp.out _ | with_reducible exact HKs.out _ _ _ _ _ | with_reducible exact HKt.out _ _ _ _ | with_reducible exact HKu.out _ _ _ _ | go_keep) (first | (go_at_call 53; refine (hbh _).mono ?_; rintro e w2 ⟨rfl, rfl⟩))
  go_wp2_with fail
  have hZ : At ((((W.setCell ⟨w.heap.size + 1, 0, none⟩ (.int .i64 (M : Int))).setCell ⟨w.heap.size + 1, 1, none⟩ (.int .i64 (a : Int))).setCell ⟨w.heap.size + 1, 2, none⟩ (.bool D)).setCell ⟨w.heap.size + 1, 3, none⟩ (.string (t.extract a z))).drew (w.heap.size + 1) 64 [.int .i64 (M : Int), .int .i64 (a : Int), .bool D, .string (t.extract a z)] := (((F3.out.setCell (o := 0) (.int .i64 (M : Int))).setCell (o := 1) (.int .i64 (a : Int))).setCell (o := 2) (.bool D)).setCell (o := 3) (.string (t.extract a z))
  have hB : Below w.heap.size w ((((W.setCell ⟨w.heap.size + 1, 0, none⟩ (.int .i64 (M : Int))).setCell ⟨w.heap.size + 1, 1, none⟩ (.int .i64 (a : Int))).setCell ⟨w.heap.size + 1, 2, none⟩ (.bool D)).setCell ⟨w.heap.size + 1, 3, none⟩ (.string (t.extract a z))).drew := by
    refine Kept.below (S := [w.heap.size + 1]) ((((((F1.out.wider (by simp)).setCell (by simp) _).setCell (by simp) _).setCell (by simp) _).setCell (by simp) _).drew) (Nat.le_refl _) (by simp)
  refine bodyPost_ret (results_cell_row (p := 6) (ty := 64) (by kernel_rfl) _ _ (w.heap.size + 1) 64 _ (0, 0) _ rfl hZ Try.underlying64 rfl (by kernel_rfl)) rfl ?_
  exact ⟨rfl, hB⟩
end Go.Proofs.Ytbjgfoiikhbonaf
namespace Go.Proofs.Ytbjgfoiikhbonaf
open Go.ChangeShapes Go.WideShapes Go.ChangeAt Go.RowKit
def zeroPc : Value := .agg #[.int .i64 0, .int .i64 0, .bool false, .string { data := #[] }]
set_option maxRecDepth 100000 in
set_option maxHeartbeats 1000000 in
theorem snext_bad {w : World} {p : Addr} {size : Int} (h : size < 1 ∨ 1500 < size) :
    Calls Try.prog 16 #[.pointer (some p), .int .i64 size] w fun e w' => e = .returned (.tuple #[zeroPc, .int .i64 1]) ∧ Below w.heap.size w w' := by
  have hb0 : Below w.heap.size w (w.alloc (.cells #[.int .i64 0, .int .i64 0, .bool false, .string { data := #[] }] 64)) := (Below.refl _ w).alloc (Nat.le_refl _) _
  by_cases h1 : size < 1
  · go_enter Try.func16, Try.ntmps16
    go_wp2_with fail
    (try simp only [Exit.inBlock, Exit.then])
    refine bodyPost_ret (v := .tuple #[zeroPc, .int .i64 1]) ?_ rfl ⟨rfl, ?_⟩
    · rw [results_cell_tmp rfl]
      unfold zeroPc
      go_simp
    · exact hb0
  · have h2 : 1500 < size := by omega
    go_enter Try.func16, Try.ntmps16
    go_wp2_with fail
    (try simp only [Exit.inBlock, Exit.then])
    refine bodyPost_ret (v := .tuple #[zeroPc, .int .i64 1]) ?_ rfl ⟨rfl, ?_⟩
    · rw [results_cell_tmp rfl]
      unfold zeroPc
      go_simp
    · exact hb0
def noneP (x : UnP) : Bool := x.al.isEmpty
def NextPost (w : World) (b win bg : Nat) (ua : Option Addr) (c : Nat) (us us' : List UnP) (i a z : Nat) (tx : ByteArray) : Ending → World → Prop := fun e w' => e = .returned (.tuple #[pieceV ((bg + i) % 64) a (decide (z = tx.size)) (tx.extract a z), .int .i64 0]) ∧ Kept (sndF b ua us) w w' ∧ ∃ v', PSnd w' b win bg ua c (us'.set i { us'.getD i .zero with av := v' }) ∧ (∀ g, v'.ownBlock = some g → (us.getD i .zero).av.ownBlock = some g)
/-- A piece has been written into a new block. -/
theorem piece_end {w w1 w2 : World} {b win bg : Nat} {ua : Option Addr} {c : Nat} {us us2 : List UnP} {v0 v1 v2 v3 : Value} (hP : PSnd w1 b win bg ua c us2) (hk : Kept (sndF b ua us) w w1) (hlt : ∀ x ∈ sndF b ua us2, x < w.heap.size) (hb : Below w1.heap.size w1 w2) :
    Kept (sndF b ua us) w ((((w2.setCell ⟨w.heap.size, 0, none⟩ v0).setCell ⟨w.heap.size, 1, none⟩ v1).setCell ⟨w.heap.size, 2, none⟩ v2).setCell ⟨w.heap.size, 3, none⟩ v3) ∧ PSnd ((((w2.setCell ⟨w.heap.size, 0, none⟩ v0).setCell ⟨w.heap.size, 1, none⟩ v1).setCell ⟨w.heap.size, 2, none⟩ v2).setCell ⟨w.heap.size, 3, none⟩ v3) b win bg ua c us2 := by
  have k2 : Kept [] w1 w2 := Kept.of_below hb
  have k3 : Kept [w.heap.size] w2 ((((w2.setCell ⟨w.heap.size, 0, none⟩ v0).setCell ⟨w.heap.size, 1, none⟩ v1).setCell ⟨w.heap.size, 2, none⟩ v2).setCell ⟨w.heap.size, 3, none⟩ v3) := ((((Kept.refl _ _).setCell (by simp) _).setCell (by simp) _).setCell (by simp) _).setCell (by simp) _
  exact ⟨keptChain (hk.trans (k2.wider (by simp))) k3 (fun x hx => .inr (by simp at hx; omega)), (hP.kept k2 (by simp)).kept k3 (fun x hx => by have := hlt x hx; simp; omega)⟩
set_option maxRecDepth 100000 in
set_option maxHeartbeats 2000000 in
theorem snext_again {w : World} {b win bg : Nat} {ua : Option Addr} {c : Nat} {us : List UnP} {size i p q : Nat} {r : Sps} (h : PSnd w b win bg ua c us) (hbg : bg < 64) (hl : us.length ≤ 4000) (hok : UsOk us) (h1 : 1 ≤ size) (h2 : size ≤ 1500) (hi : i = lead noneP us) (hil : i < us.length) (hal : (us.getD i .zero).al = (p, q) :: r) :
    Calls Try.prog 16 #[.pointer (some ⟨b, 0, none⟩), .int .i64 (size : Int)] w (NextPost w b win bg ua c us (us.set i { us.getD i .zero with al := if q ≤ p + size then r else (p + size, q) :: r }) i p (min q (p + size)) (us.getD i .zero).text) := by
  have hk0 : Kept [] w (w.alloc (.cells #[.int .i64 0, .int .i64 0, .bool false, .string { data := #[] }] 64)) := (Kept.refl _ w).alloc _
  have hA := at_alloc w 64 [.int .i64 0, .int .i64 0, .bool false, .string { data := #[] }]
  have hP := h.kept hk0 (by simp)
  have hsz : (w.alloc (.cells #[.int .i64 0, .int .i64 0, .bool false, .string { data := #[] }] 64)).heap.size = w.heap.size + 1 := World.size_alloc _ _
  have hlt := h.lt
  obtain ⟨-, -, c2⟩ := hP.head
  have hnn : ∀ j, j < i → (us.getD j .zero).al = [] := fun j hj => by
    have := lead_in (p := noneP) (us := us) (k := j) (by omega)
    unfold noneP at this
    exact List.isEmpty_iff.1 this
  have hs := hok.srt i hil
  rw [hal] at hs
  have hpq := hs.head.1
  have hin := hok.inn i hil
  have hq : q ≤ (us.getD i .zero).sent := by
    have := hin (q - 1) (by rw [hal]; exact ⟨(p, q), List.mem_cons_self, by show p ≤ q - 1; omega, by show q - 1 < q; omega⟩)
    omega
  have hsn := hok.sent i hil
  have hszt := hok.size i hil
  have hrl : r.length ≤ 4000 := by
    have := hs.tail.few (e := 4000) (fun y hy => by
      have hE := endLe_of (hok.srt i hil) (e := (us.getD i .zero).sent) hin
      have := hE y (by rw [hal]; exact List.mem_cons_of_mem _ hy)
      omega)
    exact this
  obtain ⟨N, hN⟩ : ∃ N, N = us.length := ⟨_, rfl⟩
  rw [← hN] at c2 hl hil
  have HP := hid hP
  have HNN := hid hnn
  have HN := hid hN
  have HA := hid hA
  have HK0 := hid hk0
  have HLT := hid hlt
  have HSZ := hid hsz
  have HI := hid hi
  clear hP hnn hN hA hk0 hlt hok hin h hi
  obtain ⟨m, em⟩ : ∃ m, m = min q (p + size) := ⟨_, rfl⟩
  obtain ⟨l', el⟩ : ∃ l', l' = (if q ≤ p + size then r else (p + size, q) :: r) := ⟨_, rfl⟩
  rw [← em, ← el]
  have EM := hid em
  have EL := hid el
  clear em el
  generalize hQ : NextPost w b win bg ua c us (us.set i { us.getD i .zero with al := l' }) i p m (us.getD i .zero).text = Post
  have HQ := hid hQ
  clear hQ
  go_enter Try.func16, Try.ntmps16
  have hd1 : ¬ ((size : Int) < 1) := by omega
  have hd2 : ¬ (1500 < (size : Int)) := by omega
  go_wp2_with fail
  go_loopw [23] (fun vi wr => ∃ k : Nat, k ≤ i ∧ vi = .int .i64 k ∧ Hid (wr = w.alloc (.cells #[.int .i64 0, .int .i64 0, .bool false, .string { data := #[] }] 64))) (fun vi _ => N - (intOf vi).toNat)
  case atStart => exact ⟨0, by omega, rfl, hid rfl⟩
  case round =>
    obtain ⟨k, hk, rfl, hw⟩ := hrel
    have HW := hw
    have hw := hw.out
    rw [← hw] at c2
    rw [← hw] at HP HA HK0 HSZ
    obtain ⟨ug, hua, hugb, hun⟩ := HP.out.un (i := k) (by rw [← HN.out]; omega)
    subst hua
    clear hw
    by_cases hki : k < i
    · have c3 := hun.c2
      obtain ⟨ad, cc, eav, -, -, -⟩ := hun.ag.shape
      rw [HNN.out k hki] at eav
      rw [eav] at c3
      clear hun eav
      go_wp2_with fail
      exact ⟨⟨k + 1, by omega, by go_num, HW⟩, by simp [intOf]; omega⟩
    · obtain rfl : k = i := by omega
      obtain ⟨ad, cc, eav, -, -, hadx⟩ := hun.ag.shape
      have hag := hun.ag
      rw [hal] at hag
      rw [eav, hal] at hag
      obtain ⟨ga, ead, -, -⟩ := hag.at (i := 0) (by simp)
      subst ead
      have c3 := hun.c2
      rw [eav, hal] at c3
      have hga : ga ≠ ug := hun.sep ga (by rw [eav]; rfl)
      have hcut := spCut_any (w := wr) (b := ug) (o := k * 4 + 2) (size := size) c3 (hun.fr _) hag hga hrl hpq (by omega) h1 (by omega)
      rw [← EM.out, ← EL.out] at hcut
      have hkl : k < us.length := by rw [← HN.out]; exact hil
      have hend : ∀ w1 v', PtrPost wr w1 ug (k * 4 + 2) [ga] v' → OwnSp w1 v' l' → v'.ownBlock = some ga → PSnd w1 b win bg (some ⟨ug, 0, none⟩) c (us.set k { us.getD k .zero with av := v', al := l' }) ∧ Kept (sndF b (some ⟨ug, 0, none⟩) us) w w1 ∧ w.heap.size < w1.heap.size ∧ At w1 w.heap.size 64 [.int .i64 0, .int .i64 0, .bool false, .string { data := #[] }] := fun w1 v' p1 p2 p3 => by
        have hgaF : ga ∈ sndF b (some ⟨ug, 0, none⟩) us := sndF_a hkl (by rw [eav]; rfl)
        have hugF : ug ∈ sndF b (some ⟨ug, 0, none⟩) us := sndF_u (y := ⟨ug, 0, none⟩) rfl
        have hS : ∀ x ∈ ug :: [ga], x ∈ sndF b (some ⟨ug, 0, none⟩) us := fun x hx => by
          simp at hx
          rcases hx with rfl | rfl
          · exact hugF
          · exact hgaF
        refine ⟨HP.out.upd hkl (f := 2) (by omega) p1 (fun s hs => by simp at hs; subst hs; rw [eav]; rfl) rfl p2 (fun g' hg' => .inl (by rw [p3] at hg'; cases hg'; rw [eav]; rfl)), ?_, ?_, ?_⟩
        · exact keptChain (HK0.out.wider (by simp)) p1.kept (fun x hx => .inl (hS x hx))
        · have := p1.kept.size
          have := HSZ.out
          omega
        · exact HA.out.kept p1.kept (fun hx => by have := HLT.out _ (hS _ hx); omega)
      have hpc : ∀ w1 v', PSnd w1 b win bg (some ⟨ug, 0, none⟩) c (us.set k { us.getD k .zero with av := v', al := l' }) → Calls Try.prog 36 #[.pointer (some ⟨b, 0, none⟩), .int .i64 (k : Int), .agg #[.int .i64 (p : Int), .int .i64 (m : Int)]] w1 fun e w' => e = .returned (pieceV ((bg + k) % 64) p (decide (m = (us.getD k .zero).text.size)) ((us.getD k .zero).text.extract p m)) ∧ Below w1.heap.size w1 w' := fun w1 v' hw1 => by
        have := piece_any (i := k) (a := p) (z := m) hw1 (by rw [List.length_set]; exact hkl) (by omega) hbg (by rw [EM.out]; omega) (by rw [getD_setS hkl, EM.out]; show _ ≤ (us.getD k .zero).text.size; omega) (by rw [getD_setS hkl]; exact hszt)
        rw [getD_setS hkl] at this
        exact this
      have HEN := hid hend
      have HPC := hid hpc
      have HFIN : Hid (∀ w2 v', Kept (sndF b (some ⟨ug, 0, none⟩) us) w w2 → PSnd w2 b win bg (some ⟨ug, 0, none⟩) c (us.set k { us.getD k .zero with av := v', al := l' }) → v'.ownBlock = some ga → Post (.returned (.tuple #[pieceV ((bg + k) % 64) p (decide (m = (us.getD k .zero).text.size)) ((us.getD k .zero).text.extract p m), .int .i64 0])) w2) := hid fun w2 v' q1 q2 q3 => by
        rw [← HQ.out]
        refine ⟨rfl, q1, v', ?_, fun g hg => by rw [q3] at hg; cases hg; rw [eav]; rfl⟩
        rw [getD_setS hkl, List.set_set]
        exact q2
      have HLT2 : Hid (∀ v', v'.ownBlock = some ga → ∀ x ∈ sndF b (some ⟨ug, 0, none⟩) (us.set k { us.getD k .zero with av := v', al := l' }), x < w.heap.size) := hid fun v' hv' x hx => by
        rcases sndF_mem hx with rfl | ⟨y, hy, rfl⟩ | ⟨j, hj, e⟩
        · exact HLT.out _ (sndF_b _ _ _)
        · exact HLT.out _ (sndF_u hy)
        · rw [List.length_set] at hj
          by_cases hjk : j = k
          · subst hjk
            rw [getD_setS hj] at e
            have e' : v'.ownBlock = some x := e
            rw [hv'] at e'
            cases e'
            exact HLT.out _ (sndF_a hj (by rw [eav]; rfl))
          · rw [getD_setN (fun e' => hjk e'.symm)] at e
            exact HLT.out _ (sndF_a hj e)
      generalize hpv : pieceV ((bg + k) % 64) p (decide (m = (us.getD k .zero).text.size)) ((us.getD k .zero).text.extract p m) = PV at *
      have hpv' : ∃ v0 v1 v2 v3, PV = .agg #[.int .i64 v0, .int .i64 v1, .bool v2, .string v3] := ⟨_, _, _, _, hpv.symm⟩
      obtain ⟨v0, v1, v2, v3, epv⟩ := hpv'
      subst epv
      clear hpv hend hpc eav hag hun hal hadx hs
      go_wp2_with (first
        | (go_at_call 37; refine hcut.mono ?_; rintro e w1 ⟨v', rfl, p1, p2, p3⟩; obtain ⟨t1, t2, t3, t4⟩ := HEN.out _ _ p1 p2 p3; have hpc1 := HPC.out _ _ t1)
        | (go_at_call 36; refine hpc1.mono ?_; rintro e w2 ⟨rfl, hb2⟩; have t5 := t4.kept (S := []) (Kept.of_below hb2) (by simp); have y0 : w2.cell? ⟨w.heap.size, 0, none⟩ = some (.int .i64 0) := t5.cell 0; have y1 : w2.cell? ⟨w.heap.size, 1, none⟩ = some (.int .i64 0) := t5.cell 1; have y2 : w2.cell? ⟨w.heap.size, 2, none⟩ = some (.bool false) := t5.cell 2; have y3 : w2.cell? ⟨w.heap.size, 3, none⟩ = some (.string { data := #[] }) := t5.cell 3; have z0 := t5.free 0; have z1 := t5.free 1; have z2 := t5.free 2; have z3 := t5.free 3))
      obtain ⟨e1, e2⟩ := piece_end (v0 := .int .i64 v0) (v1 := .int .i64 v1) (v2 := .bool v2) (v3 := .string v3) t1 t2 (HLT2.out v' p3) hb2
      (try simp only [Exit.inBlock, Exit.then])
      refine bodyPost_ret (v := .tuple #[.agg #[.int .i64 v0, .int .i64 v1, .bool v2, .string v3], .int .i64 0]) ?_ rfl (HFIN.out _ v' e1 e2 p3)
      rw [results_cell_tmp rfl]
      clear e1 e2 t1 t2 hpc1 HFIN HLT2 HPC HEN HP hcut
      go_simp
end Go.Proofs.Ytbjgfoiikhbonaf
