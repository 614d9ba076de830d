import Derived.Test.YtmdfjhnibhmdkafDoorMgC
namespace Go.Proofs.YtmdfjhnibhmdkafDoor
open Go.ChangeShapes Go.WideShapes Go.ChangeAt Go.RowKit

/-! THE PROGRAM'S Tick and Level. -/

def ownT (v : Value) : List Nat := match v.ownBlock with | some g => [g] | none => []
theorem ownT_in {v : Value} {k : Nat} : k ∈ ownT v ↔ v.ownBlock = some k := by
  unfold ownT
  cases v.ownBlock with
  | none => simp
  | some g => simp; exact eq_comm
def tickS (t : ShM) : ShM := ⟨t.ch, min (t.lv + t.ch.rate) t.ch.depth⟩
def ShM.fits (t : ShM) : Prop := (-1000000000000000 ≤ t.lv ∧ t.lv ≤ 1000000000000000) ∧ (0 ≤ t.ch.rate ∧ t.ch.rate ≤ 10000) ∧ (0 ≤ t.ch.depth ∧ t.ch.depth ≤ 100000)
def tickTo (l : List ShM) (k : Nat) : List ShM := (l.take k).map tickS ++ l.drop k
theorem tickTo_length (l : List ShM) (k : Nat) : (tickTo l k).length = l.length := by
  unfold tickTo
  rw [List.length_append, List.length_map, List.length_take, List.length_drop]
  omega
theorem tickTo_at {l : List ShM} {k : Nat} (h : k < l.length) : (tickTo l k).getD k .zero = l.getD k .zero := by
  unfold tickTo
  have hl : ((l.take k).map tickS).length = k := by simp; omega
  simp only [List.getD]
  rw [List.getElem?_append_right (by omega), hl, Nat.sub_self, List.getElem?_drop, Nat.add_zero]
theorem tickTo_set {l : List ShM} {k : Nat} (h : k < l.length) : (tickTo l k).set k (tickS (l.getD k .zero)) = tickTo l (k + 1) := by
  unfold tickTo
  have hl : ((l.take k).map tickS).length = k := by simp; omega
  have e : l.getD k .zero = l[k] := by simp [List.getD, h]
  rw [List.set_append_right _ _ (by omega), hl, Nat.sub_self, List.drop_eq_getElem_cons h, List.set_cons_zero, List.take_succ_eq_append_getElem h, List.map_append, e]
  simp
theorem tickTo_all (l : List ShM) : tickTo l l.length = l.map tickS := by
  unfold tickTo
  simp

set_option maxRecDepth 100000 in
set_option maxHeartbeats 4000000 in
theorem tick_anyK (l : List ShM) (B g : Nat) (v : Value) (w : World) (hP : PSh w B g v l) (hn : l.length ≤ 1000) (hf : ∀ i, i < l.length → (l.getD i .zero).fits) :
    Calls Tryd.prog 8 #[.pointer (some ⟨g, 0, none⟩)] w fun e w' => e = .returned (.tuple #[]) ∧ PSh w' B g v (l.map tickS) ∧ Below B w w' ∧ Kept (ownT v) w w' := by
  have HF := hid hf
  obtain ⟨a, c, rfl, -, -⟩ := hP.own.shape
  have p0 := hP.cell
  obtain ⟨n, en⟩ : ∃ n, n = l.length := ⟨_, rfl⟩
  rw [← en] at hP p0 hn ⊢
  have HN := hid en
  have hP0 : PSh w B g (.slice a n c) (tickTo l 0) := hP
  clear hf en hP
  go_enter Tryd.func8, Tryd.ntmps8
  go_wp2_with fail
  go_loopw [9] (fun i wr => ∃ k : Nat, k ≤ n ∧ i = .int .i64 k ∧ PSh wr B g (.slice a n c) (tickTo l k) ∧ Below B w wr ∧ Kept (ownT (.slice a n c)) w wr) (fun i _ => n - (intOf i).toNat)
  case atStart => exact ⟨0, by omega, rfl, hP0, Below.refl _ w, Kept.refl _ w⟩
  case round =>
    clear hP0 p0
    obtain ⟨k, hk, rfl, hP, hw, hkw⟩ := hrel
    have p0 := hP.cell
    by_cases hlt : k < n
    · have hkl : k < l.length := by rw [← HN.out]; exact hlt
      have hkt : k < (tickTo l k).length := by rw [tickTo_length]; exact hkl
      obtain ⟨gb, c', e, hBg, -, hC⟩ := hP.own.at (by omega)
      simp only [Value.slice.injEq] at e
      obtain ⟨rfl, -, rfl⟩ := e
      obtain ⟨⟨-, -, c2, c3, c4⟩, z4⟩ := hC k hkt
      have hS := fun x => hP.setLv hkt x
      have hset := tickTo_set hkl
      have hfk := HF.out k hkl
      rw [tickTo_at hkl] at c2 c3 c4 hS
      unfold tickS at hset
      obtain ⟨t, et⟩ : ∃ t, t = l.getD k .zero := ⟨_, rfl⟩
      rw [← et] at c2 c3 c4 hS hset hfk
      have hS2 := hS (min (t.lv + t.ch.rate) t.ch.depth)
      rw [hset] at hS2
      have hwS : Below B w (wr.setCell ⟨gb, k * 5 + 4, none⟩ (.int .i64 (min (t.lv + t.ch.rate) t.ch.depth))) := hw.setCell (p := ⟨gb, k * 5 + 4, none⟩) hBg _
      have hkS : Kept (ownT (.slice (some ⟨gb, 0, none⟩) n c)) w (wr.setCell ⟨gb, k * 5 + 4, none⟩ (.int .i64 (min (t.lv + t.ch.rate) t.ch.depth))) := hkw.setCell (p := ⟨gb, k * 5 + 4, none⟩) (ownT_in.2 rfl) _
      have HKS := hid hkS
      obtain ⟨⟨f1, f2⟩, ⟨f3, f4⟩, ⟨f5, f6⟩⟩ := hfk
      have HS := hid hS2
      clear hC hS hset et hkl hkt hS2 hP hkS hkw
      go_upto_region 4 with fail
      go_region
      go_wp2_with fail
      go_roundw
      case rel => exact ⟨k + 1, by omega, by go_num, ⟨HS.out.box, HS.out.own, HS.out.ne, HS.out.le⟩, hwS.drew, HKS.out.drew⟩
      case measure => simp [intOf]; omega
    · have e : k = n := by omega
      subst e
      have hall : tickTo l k = l.map tickS := by rw [HN.out, tickTo_all]
      rw [hall] at hP
      go_wp2_with fail
      go_end0
      exact ⟨rfl, hP, hw, hkw⟩
theorem tick_any (l : List ShM) (B g : Nat) (v : Value) (w : World) (hP : PSh w B g v l) (hn : l.length ≤ 1000) (hf : ∀ i, i < l.length → (l.getD i .zero).fits) :
    Calls Tryd.prog 8 #[.pointer (some ⟨g, 0, none⟩)] w fun e w' => e = .returned (.tuple #[]) ∧ PSh w' B g v (l.map tickS) ∧ Below B w w' := (tick_anyK l B g v w hP hn hf).mono fun _ _ ⟨h1, h2, h3, _⟩ => ⟨h1, h2, h3⟩

def levelV (l : List ShM) (id : Int) : Value := if findI l id = -1 then .tuple #[.int .i64 0, .int .i64 6] else .tuple #[.int .i64 (l.getD (findI l id).toNat .zero).lv, .int .i64 0]

set_option maxHeartbeats 1000000 in
theorem level_any (l : List ShM) (id : Int) (B g : Nat) (v : Value) (w : World) (hP : PSh w B g v l) (hn : l.length ≤ 1000) :
    Calls Tryd.prog 9 #[.pointer (some ⟨g, 0, none⟩), .int .i64 id] w fun e w' => e = .returned (levelV l id) ∧ Below w.heap.size w w' := by
  have hfi := find_any l id B g v w hP hn
  have hlt := findI_lt l id
  rcases findI_ge l id with hf | hf
  · rw [hf] at hfi
    have HX := hid (show levelV l id = .tuple #[.int .i64 0, .int .i64 6] from if_pos hf)
    clear hf hP hlt
    go_enter Tryd.func9, Tryd.ntmps9
    go_wp2_with (go_at_call 32; refine hfi.mono ?_; rintro e w1 ⟨rfl, hb1⟩)
    go_ret2
    rw [HX.out]
    exact ⟨rfl, hb1⟩
  · obtain ⟨k, ek⟩ : ∃ k : Nat, findI l id = (k : Int) := ⟨(findI l id).toNat, by omega⟩
    rw [ek] at hfi hlt
    have hkl : k < l.length := by omega
    obtain ⟨gb, c, rfl, -, -, hC⟩ := hP.own.at (by omega)
    obtain ⟨⟨-, -, -, -, c4⟩, -⟩ := hC k hkl
    have p0 := hP.cell
    have HX := hid (show levelV l id = .tuple #[.int .i64 (l.getD k .zero).lv, .int .i64 0] by unfold levelV; rw [if_neg (by omega), ek]; rfl)
    generalize l.getD k .zero = t at *
    have hl9 : l.length ≤ 9223372036854775807 := by omega
    obtain ⟨n, en⟩ : ∃ n, n = l.length := ⟨_, rfl⟩
    rw [← en] at p0 hkl hl9
    clear hC hf hP hlt ek en hn
    go_enter Tryd.func9, Tryd.ntmps9
    go_wp2_with (go_at_call 32; refine hfi.mono ?_; rintro e w1 ⟨rfl, hb1⟩; have p1 := cellB hb1 p0; have c5 := cellB hb1 c4)
    go_ret2
    rw [HX.out]
    exact ⟨rfl, hb1⟩
end Go.Proofs.YtmdfjhnibhmdkafDoor
