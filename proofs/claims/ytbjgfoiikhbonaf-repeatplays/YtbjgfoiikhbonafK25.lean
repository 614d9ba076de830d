import Derived.Test.YtbjgfoiikhbonafK21
import Derived.Test.YtbjgfoiikhbonafK22
set_option linter.unusedVariables false
set_option linter.unusedSimpArgs false
namespace Go.Proofs.Ytbjgfoiikhbonaf
open Go.ChangeShapes Go.WideShapes Go.ChangeAt Go.RowKit
theorem takeT {us : List TkP} {k : Nat} (h : k < us.length) : us.take (k + 1) = us.take k ++ [us.getD k .zero] := by
  rw [List.take_add_one, List.getD_eq_getElem?_getD, List.getElem?_eq_getElem h]
  rfl
def textsT (l : List TkP) : List ByteArray := l.map fun x => strOfNums x.data
/-- A copy of a unit, in a cell of its own. -/
theorem TkAt.box {w wr : World} {b fs g c k : Nat} {us : List TkP} (h : PRcv w b fs g c us) (hb : Below w.heap.size w wr) (x : TkP) (hx : x = us.getD k .zero) : TkAt (wr.alloc (.cells #[x.dv, x.tv, .int .i64 (x.len : Int)] 120)) wr.heap.size 0 x := by
  have hA := at_alloc wr 120 [x.dv, x.tv, .int .i64 (x.len : Int)]
  have hk : Kept [] w (wr.alloc (.cells #[x.dv, x.tv, .int .i64 (x.len : Int)] 120)) := (Kept.of_below hb).alloc _
  have hs := hb.size
  subst hx
  refine ⟨hA.cell 0, hA.cell 1, hA.cell 2, fun j => hA.free j, keptOwn (h.od k) hk (by simp), (h.ot k).kept hk (by simp), fun q hq => ?_, fun q hq => ?_, fun q hq hq' => ?_⟩
  · have := h.kl (k := false) hq
    omega
  · have := h.kl (k := true) hq
    omega
  · have := (h.nn k k false true q hq hq').2
    cases this
def TellPost (w : World) (b fs g c : Nat) (us : List TkP) : Ending → World → Prop := fun e w' => ∃ k a cc, k ≤ us.length ∧ e = .returned (.slice a k cc) ∧ (∀ j, j < k → (us.getD j .zero).whole = true) ∧ (k < us.length → (us.getD k .zero).whole = false) ∧ Txs w' a (textsT (us.take k)) ∧ NewAt w.heap.size a ∧ (∀ x, a = some x → x.block < w'.heap.size) ∧ Kept [b, g] w w' ∧ PRcv w' b ((fs + k) % 64) g c (us.drop k ++ List.replicate k .zero) ∧ w'.ownsRow w.heap.size 9 1 (.slice a k cc) k ((textsT (us.take k)).map Value.string)
theorem tell_done {w wr w3 w5 w7 : World} {b fs g c k cc : Nat} {a : Option Addr} {us : List TkP} (h : PRcv w b fs g c us) (hk : k ≤ us.length) (hw1 : ∀ j, j < k → (us.getD j .zero).whole = true) (hw2 : k < us.length → (us.getD k .zero).whole = false)
    (hb : Below w.heap.size w wr) (ho : wr.ownsRow w.heap.size 9 1 (.slice a k cc) k ((textsT (us.take k)).map Value.string))
    (hk3 : Kept [g] wr w3) (hk5 : Kept [g] w3 w5) (ho5 : w5.ownsRow 0 120 3 (.slice (some ⟨g, 0, none⟩) us.length c) us.length (cellsTk (us.drop k ++ List.replicate k .zero)))
    (hw7 : w7 = (w5.setCell ⟨b, 1, none⟩ (.slice (some ⟨g, 0, none⟩) us.length c)).setCell ⟨b, 0, none⟩ (.int .i64 (((fs + k) % 64 : Nat) : Int))) : TellPost w b fs g c us (.returned (.slice a k cc)) w7 := by
  have hgl := h.gl
  have hbl := h.hd.lt
  have hK5 : Kept [g] w w5 := ((Kept.of_below hb).trans hk3).trans hk5
  have hK7 : Kept [b, g] w w7 := by
    rw [hw7]
    exact ((hK5.wider (by simp)).setCell (by simp) _).setCell (by simp) _
  have hlt : (textsT (us.take k)).length = k := by unfold textsT; rw [List.length_map, List.length_take]; omega
  have hTx : Txs wr a (textsT (us.take k)) := row_txs (by rw [hlt]; exact ho)
  have hnew : ∀ x, a = some x → w.heap.size ≤ x.block ∧ x.block < wr.heap.size := fun x hx => by
    obtain ⟨a', c', e, -, -, hx'⟩ := row_shape ho
    simp only [Value.slice.injEq] at e
    obtain ⟨rfl, -, rfl⟩ := e
    obtain ⟨q, rfl, hq⟩ := hx' x hx
    exact World.ownsRow.lt ho q hq
  have hK57 : Kept [b, g] wr w7 := by
    rw [hw7]
    exact ((((hk3.trans hk5).wider (by simp)).setCell (by simp) _).setCell (by simp) _)
  refine ⟨k, a, cc, hk, rfl, hw1, hw2, hTx.kept hK57 (fun x hx hm => ?_), fun x hx => (hnew x hx).1, fun x hx => Nat.lt_of_lt_of_le (hnew x hx).2 hK57.size, hK7, ?_, keptRow ho hK57 (fun q hq hm => by have := (World.ownsRow.lt ho q hq).1; simp at hm; omega)⟩
  · have := (hnew x hx).1
    simp at hm
    omega
  · have hdl : (us.drop k ++ List.replicate k TkP.zero).length = us.length := by rw [List.length_append, List.length_drop, List.length_replicate]; omega
    refine h.tell hk hK7 (fun i l q hq hm => ?_) ?_ ?_
    · have := h.na i l q hq
      simp at hm
      omega
    · rw [hw7]
      exact ((h.hd.kept hK5 (by simpa using fun e => h.nb e.symm)).setCell _).setCell _
    · rw [hw7]
      refine keptRow (keptRow ho5 (kept_setCell w5 b 1 _) (fun q hq => ?_)) (kept_setCell _ b 0 _) (fun q hq => ?_)
      · simp [Value.ownBlock] at hq
        subst hq
        simpa using h.nb
      · simp [Value.ownBlock] at hq
        subst hq
        simpa using h.nb
end Go.Proofs.Ytbjgfoiikhbonaf
namespace Go.Proofs.Ytbjgfoiikhbonaf
open Go.ChangeShapes Go.WideShapes Go.ChangeAt Go.RowKit
theorem cellsTk_one {us : List TkP} (h : ∀ i, ∃ a n c a' n' c', (us.getD i .zero).dv = .slice a n c ∧ (us.getD i .zero).tv = .slice a' n' c') : ∀ v ∈ cellsTk us, v.oneCell' = true := by
  intro v hv
  obtain ⟨x, hx, hv⟩ := List.mem_flatMap.1 hv
  obtain ⟨i, hi, rfl⟩ := List.mem_iff_getElem.1 hx
  have e : us.getD i .zero = us[i] := by rw [List.getD_eq_getElem?_getD, List.getElem?_eq_getElem hi]; rfl
  obtain ⟨a, n, c, a', n', c', h1, h2⟩ := h i
  rw [e] at h1 h2
  unfold TkP.cells at hv
  rw [h1, h2] at hv
  simp at hv
  rcases hv with rfl | rfl | rfl <;> rfl
/-- What follows the loop asks of memory. -/
structure TellAt (w wq : World) (b fs g c N k : Nat) (us : List TkP) : Prop where
  c0 : wq.cell? ⟨b, 0, none⟩ = some (.int .i64 (fs : Int))
  c1 : wq.cell? ⟨b, 1, none⟩ = some (.slice (some ⟨g, 0, none⟩) N c)
  del : Calls Try.prog 64 #[.slice (some ⟨g, 0, none⟩) N c, .int .i64 (0 : Int), .int .i64 (k : Int)] wq fun e w' => e = .returned (.slice (some ⟨g, 0, none⟩) (N - k) c) ∧ w'.cell? ⟨b, 0, none⟩ = some (.int .i64 (fs : Int)) ∧ w'.cell? ⟨b, 1, none⟩ = some (.slice (some ⟨g, 0, none⟩) N c) ∧ Kept [g] wq w' ∧ ∃ W, (∀ ty, (Builtin.append_ #[101, 3] ty #[.slice (some ⟨g, 0, none⟩) (N - k) c, .int .i64 (k : Int)]).run Try.prog w' = .ok (.slice (some ⟨g, 0, none⟩) N c) W) ∧ W.ownsRow 0 120 3 (.slice (some ⟨g, 0, none⟩) N c) N (cellsTk (us.drop k ++ List.replicate k .zero)) ∧ Kept [g] w' W ∧ W.cell? ⟨b, 0, none⟩ = some (.int .i64 (fs : Int)) ∧ W.cell? ⟨b, 1, none⟩ = some (.slice (some ⟨g, 0, none⟩) N c) ∧ W.frozen? ⟨b, 0, none⟩ = false ∧ W.frozen? ⟨b, 1, none⟩ = false
theorem TellAt.of {w wq : World} {b fs g c N k : Nat} {us : List TkP} (h : PRcv w b fs g c us) (hb : Below w.heap.size w wq) (hN : N = us.length) (hN2 : N ≤ 32) (hk : k ≤ N) : TellAt w wq b fs g c N k us := by
  subst hN
  have hq := h.kept (Kept.of_below (S := []) hb) (by simp)
  have hbg : b ∉ [g] := by simpa using fun e => h.nb e.symm
  refine ⟨hq.hd.cell 0, hq.hd.cell 1, ?_⟩
  have hone := cellsTk_one (us := us) (fun i => by
    obtain ⟨a, c, e, -⟩ := (h.od i).shape
    obtain ⟨a', c', e', -⟩ := (h.ot i).shape
    exact ⟨_, _, _, _, _, _, e, e'⟩)
  obtain ⟨-, -, -, hnc, -⟩ := row_at hq.own
  refine (deleteTk_any hq.own hone hk).mono ?_
  rintro e w3 ⟨rfl, ho3, hk3⟩
  have hk3 : Kept [g] wq w3 := hk3
  have hd3 := hq.hd.kept hk3 hbg
  rw [cellsTk_drop] at ho3
  obtain ⟨W, hR, hO, hK⟩ := tk_zeros (m := k) ho3 (by omega) (by omega)
  rw [Nat.sub_add_cancel hk] at hR hO
  rw [← cellsTk_app] at hO
  have hdW := hd3.kept hK hbg
  exact ⟨rfl, hd3.cell 0, hd3.cell 1, hk3, W, hR, hO, hK, hdW.cell 0, hdW.cell 1, hdW.free 0, hdW.free 1⟩
set_option maxRecDepth 100000 in
set_option maxHeartbeats 2000000 in
theorem tell_any {w : World} {b fs g c : Nat} {us : List TkP} (h : PRcv w b fs g c us) (hl : us.length ≤ 32) (hfs : fs < 64) (hth : ∀ i, (us.getD i .zero).th.length ≤ 4000) (hln : ∀ i, (us.getD i .zero).len ≤ 3000) (hdl : ∀ i, (us.getD i .zero).data.length ≤ 4000) :
    Calls Try.prog 43 #[.pointer (some ⟨b, 0, none⟩)] w (TellPost w b fs g c us) := by
  have c1 : w.cell? ⟨b, 1, none⟩ = some (.slice (some ⟨g, 0, none⟩) us.length c) := h.hd.cell 1
  obtain ⟨N, hN⟩ : ∃ N, N = us.length := ⟨_, rfl⟩
  rw [← hN] at c1 hl
  have H := hid h
  have HN := hid hN
  obtain ⟨i0, hi, hz0, hz1, hz2⟩ := info_parts Try.infoTx
  have HI := hid hi
  have HZ0 := hid hz0
  have HZ1 := hid hz1
  have HZ2 := hid hz2
  generalize hP : TellPost w b fs g c us = P
  have HP := hid hP
  have HTH := hid hth
  have HLN := hid hln
  have HDL := hid hdl
  have hta := fun (wq : World) (k : Nat) (hb : Below w.heap.size w wq) (hk : k ≤ N) => TellAt.of (k := k) h hb hN hl hk
  have HTA := hid hta
  clear hta h hN hP hi hz0 hz1 hz2 hth hln hdl
  go_enter Try.func43, Try.ntmps43
  go_wp2_with fail
  go_loopw [3, 11] (fun vt vi wr => ∃ (k cc : Nat) (a : Option Addr), k ≤ N ∧ vi = .int .i64 (k : Int) ∧ vt = .slice a k cc ∧ Hid (∀ j, j < k → (us.getD j .zero).whole = true) ∧ Hid (wr.ownsRow w.heap.size 9 1 (.slice a k cc) k ((textsT (us.take k)).map Value.string)) ∧ Hid (Below w.heap.size w wr)) (fun _ vi _ => N - (intOf vi).toNat)
  case atStart => exact ⟨0, 0, none, Nat.zero_le _, rfl, rfl, hid fun j hj => absurd hj (Nat.not_lt_zero _), hid (World.ownsRow_nil _ _ _ _), hid (Below.refl _ _)⟩
  case round =>
    obtain ⟨k, cc, a, hk, rfl, rfl, HW, HO, HB⟩ := hrel
    by_cases hkn : k < N
    · obtain ⟨x, ex⟩ : ∃ x, x = us.getD k .zero := ⟨_, rfl⟩
      have hu := H.out.un (i := k) (by rw [← HN.out]; exact hkn)
      have z0 := keptCellQ (Kept.of_below (S := []) HB.out) hu.c0 (by simp)
      have z1 := keptCellQ (Kept.of_below (S := []) HB.out) hu.c1 (by simp)
      have z2 := keptCellQ (Kept.of_below (S := []) HB.out) hu.c2 (by simp)
      rw [← ex] at z0 z1 z2
      have hbx := TkAt.box H.out HB.out x ex
      have hwh := twhole_any hbx (by rw [ex]; exact HLN.out k) (by rw [ex]; exact HTH.out k)
      obtain ⟨aD, cD, eD, -, -, -⟩ := hbx.od.shape
      obtain ⟨aT, cT, eT, -, -, -⟩ := hbx.ot.shape
      rw [eD] at z0
      rw [eT] at z1
      have hdv := hbx.od
      rw [eD] at hdv
      rw [eT] at hdv
      rw [eD, eT] at hwh
      have HTX := hid (show textsT (us.take (k + 1)) = textsT (us.take k) ++ [strOfNums x.data] by rw [takeT (by rw [← HN.out]; exact hkn)]; unfold textsT; rw [List.map_append, ex]; rfl)
      obtain ⟨S, eS⟩ : ∃ S, S = strOfNums x.data := ⟨_, rfl⟩
      rw [← eS] at HTX
      have hF : ∀ w1, (∃ n, w1 = (wr.alloc (.cells #[.slice aD x.data.length cD, .slice aT x.th.length cT, .int .i64 (x.len : Int)] 120)).drewN n) → w1.cell? ⟨wr.heap.size, 0, none⟩ = some (.slice aD x.data.length cD) ∧ (convert 108 9 (.slice aD x.data.length cD)).run Try.prog w1 = .ok (.string S) w1 ∧ Hid (w1.ownsRow w.heap.size 9 1 (.slice a k cc) k ((textsT (us.take k)).map Value.string)) ∧ Hid (Below w.heap.size w w1) := by
        rintro w1 ⟨n, rfl⟩
        have hA := at_alloc wr 120 [.slice aD x.data.length cD, .slice aT x.th.length cT, .int .i64 (x.len : Int)]
        refine ⟨hA.cell 0, ?_, hid ?_, hid ?_⟩
        · rw [eS]
          have hr : Rd .u8 ((wr.alloc (.cells #[.slice aD x.data.length cD, .slice aT x.th.length cT, .int .i64 (x.len : Int)] 120)).drewN n) aD x.data := Own.rd (B := 0) (n := x.data.length) (c := cD) hdv
          exact conv_rd hr cD
        · exact World.ownsRow.alloc HO.out _
        · exact belowN (HB.out.alloc HB.out.size _) n
      have HF := hid hF
      have HEX := hid ex
      have HWX := hid (show x.whole = (us.getD k .zero).whole by rw [ex])
      have HLM : Hid (k + 1 ≤ maxLen) := hid (by unfold maxLen; omega)
      have HLK : Hid ((k + 1) * 16 ≤ 140737488355328) := hid (by omega)
      clear hu hbx hdv eD eT hF eS ex
      generalize x.data.length = LD at *
      generalize x.th.length = LT at *
      generalize x.len = LN at *
      cases hxw : x.whole with
      | true =>
        rw [hxw] at hwh
        have HXW := hid hxw
        clear hxw
        go_wp2_with (first
          | (go_at_call 63; refine hwh.mono ?_; rintro e w1 ⟨rfl, hw1⟩; obtain ⟨f0, f1, F2, F3⟩ := HF.out w1 hw1; clear hw1)
          | (at_builtin; refine wpList_pushR w.heap.size w1.heap.size Try.underlying67 HI.out HZ0.out HZ1.out HZ2.out rfl (by decide) (World.ownsRow.alloc F2.out _) rfl _ _ rfl rfl rfl (news := [.string S]) rfl (fun j z hj => by rw [cell_of_row _ _ _ _ _ _ (heap_alloc_new w1 _)]; simpa using hj) (by intro z hz; simp at hz; subst hz; rfl) HLM.out HLK.out (by have := F3.out.size; simp; omega) ?_; intro v4 w4 ho4 hg4 hl4; obtain ⟨a4, c4, rfl, -, -, -⟩ := row_shape ho4; have HO4 := hid ho4; have HG4 := hid hg4; clear ho4 hg4 hl4))
        go_roundw
        case rel =>
          refine ⟨k + 1, c4, a4, by omega, by go_num, rfl, hid fun j hj => ?_, hid ?_, hid ?_⟩
          · by_cases e : j = k
            · subst e; rw [← HWX.out]; exact HXW.out
            · exact HW.out j (by omega)
          · rw [HTX.out, List.map_append]
            exact HO4.out
          · exact (F3.out.alloc F3.out.size _).grown HG4.out (by have := F3.out.size; simp; omega) (fun q hq => (World.ownsRow.lt F2.out q hq).1)
        case measure => simp [intOf]; omega
      | false =>
        rw [hxw] at hwh
        have HXW := hid hxw
        clear hxw
        go_wp2_with (first
          | (go_at_call 63; refine hwh.mono ?_; rintro e w1 ⟨rfl, hw1⟩; obtain ⟨f0, f1, F2, F3⟩ := HF.out w1 hw1; clear hw1; obtain ⟨t0, t1, htd⟩ := HTA.out w1 k F3.out hk)
          | (go_at_call 64; refine htd.mono ?_; rintro e w3 ⟨rfl, p0, p1, hk3, W, hR, ho5, hk5, r0, r1, r2, r3⟩; have HK3 := hid hk3; have HO5 := hid ho5; have HK5 := hid hk5; have HR := hid (fun ty cs => bi_append (hR ty) cs); clear hk3 ho5 hk5 hR)
          | (at_builtin; refine wpList_bi2 w3 rfl .append _ _ 101 3 rfl _ _ rfl rfl (HR.out _) ?_)
          | (go_at_call 53; refine (behind_any _ hfs (show k ≤ 4000 by omega)).mono ?_; rintro e w6 ⟨rfl, rfl⟩))
        rw [← HP.out]
        show TellPost w b fs g c us (.returned (.slice a k cc)) _
        exact tell_done H.out (by rw [← HN.out]; exact hk) HW.out (fun _ => by rw [← HWX.out]; exact HXW.out) F3.out F2.out HK3.out HK5.out (by rw [← HN.out]; exact HO5.out) (by rw [← HN.out]; simp)
    · obtain ⟨t0, t1, htd⟩ := HTA.out wr k HB.out hk
      go_wp2_with (first
        | (go_at_call 63; refine hwh.mono ?_; rintro e w1 ⟨rfl, hw1⟩; obtain ⟨f0, f1, F2, F3⟩ := HF.out w1 hw1; clear hw1; obtain ⟨t0, t1, htd⟩ := HTA.out w1 k F3.out hk)
        | (go_at_call 64; refine htd.mono ?_; rintro e w3 ⟨rfl, p0, p1, hk3, W, hR, ho5, hk5, r0, r1, r2, r3⟩; have HK3 := hid hk3; have HO5 := hid ho5; have HK5 := hid hk5; have HR := hid (fun ty cs => bi_append (hR ty) cs); clear hk3 ho5 hk5 hR)
        | (at_builtin; refine wpList_bi2 w3 rfl .append _ _ 101 3 rfl _ _ rfl rfl (HR.out _) ?_)
        | (go_at_call 53; refine (behind_any _ hfs (show k ≤ 4000 by omega)).mono ?_; rintro e w6 ⟨rfl, rfl⟩))
      rw [← HP.out]
      show TellPost w b fs g c us (.returned (.slice a k cc)) _
      exact tell_done H.out (by rw [← HN.out]; exact hk) HW.out (fun h => absurd h (by rw [← HN.out]; exact hkn)) HB.out HO.out HK3.out HK5.out (by rw [← HN.out]; exact HO5.out) (by rw [← HN.out]; simp)
end Go.Proofs.Ytbjgfoiikhbonaf
namespace Go.Proofs.Ytbjgfoiikhbonaf
open Go.ChangeShapes Go.WideShapes Go.ChangeAt Go.RowKit
theorem At.uniq {w : World} {b : Nat} {T T' : TypeId} {cur cur' : List Value} (h : At w b T cur) (h' : At w b T' cur') : T = T' ∧ cur = cur' := by
  unfold At at h h'
  rw [h] at h'
  simp only [Option.some.injEq, Obj.cells.injEq, and_true] at h'
  exact ⟨h'.2, by simpa using congrArg Array.toList h'.1⟩
theorem run_copyS {P : Program} (w : World) (dT sT ty elem tb : TypeId) (g o dLen dCap : Nat) (s : ByteArray) (cur : List Value)
    (hu : P.underlying dT = some (.slice elem)) (hs : (P.info? elem).map (·.size) = some 1)
    (hg : At w g tb cur) (hn : dLen ≤ s.size) (hfit : o + dLen ≤ cur.length) :
    (Builtin.copy_ #[dT, sT] ty #[.slice (some ⟨g, o, none⟩) dLen dCap, .string s]).run P w =
      .ok (goInt dLen) (w.setRow g (splice cur o ((s.data.toList.take dLen).map fun b => Value.int .u8 b.toNat)).toArray) := by
  have hl : ((s.data.toList.take dLen).map fun b => Value.int .u8 b.toNat).length = dLen := by
    rw [List.length_map, List.length_take, Array.length_toList]
    have : s.data.size = s.size := rfl
    omega
  have hst := run_storeCells_at P g o tb ((s.data.toList.take dLen).map fun b => Value.int .u8 b.toNat) 0 cur.toArray w hg (by rw [hl]; simpa using hfit) (by
    intro v hv
    obtain ⟨b, -, rfl⟩ := List.mem_map.1 hv
    rfl)
  have hmin : Nat.min s.size dLen = dLen := Nat.min_eq_right hn
  have hex : ((s.extract 0 dLen).data.map fun b => Value.int .u8 b.toNat) = ((s.data.toList.take dLen).map fun b => Value.int .u8 b.toNat).toArray := by
    apply Array.ext'
    rw [Array.toList_map, ByteArray.data_extract]
    simp
  have hm : (s.data.toList.map fun b => Value.int .u8 b.toNat).take dLen = (s.data.toList.take dLen).map fun b => Value.int .u8 b.toNat := by rw [List.map_take]
  generalize ((s.data.toList.take dLen).map fun b => Value.int .u8 b.toNat) = cs at *
  cases hq : P.info? elem with
  | none => simp [hq] at hs
  | some i =>
    have hi : i.size = 1 := by simpa [hq] using hs
    simp only [Nat.add_zero] at hst
    simp only [Builtin.copy_, Builtin.lenOf, Builtin.firstCells, sizeOf, typeInfo]
    simp [run_underlying hu, hq, hmin, hm, hst, splice]
def putL (D : List Int) (p m : Nat) (s : ByteArray) : List Int := D.take p ++ ((s.data.toList.take m).map fun b => (b.toNat : Int)) ++ D.drop (p + m)
theorem putL_len {D : List Int} {p m : Nat} {s : ByteArray} (h : p + m ≤ D.length) (hs : m ≤ s.size) : (putL D p m s).length = D.length := by
  have : s.data.size = s.size := rfl
  unfold putL
  simp only [List.length_append, List.length_take, List.length_map, Array.length_toList, List.length_drop]
  omega
theorem putL_at {D : List Int} {p m : Nat} {s : ByteArray} (h : p + m ≤ D.length) (hs : m ≤ s.size) (t : Nat) : (putL D p m s).getD t 0 = if p ≤ t ∧ t < p + m then ((s.get! (t - p)).toNat : Int) else D.getD t 0 := by
  have hsz : s.data.size = s.size := rfl
  have hl1 : (D.take p).length = p := by rw [List.length_take]; omega
  have hl2 : ((s.data.toList.take m).map fun b => (b.toNat : Int)).length = m := by
    simp only [List.length_take, List.length_map, Array.length_toList]
    omega
  unfold putL
  rw [List.getD_eq_getElem?_getD]
  by_cases h1 : t < p
  · rw [if_neg (by omega), List.append_assoc, List.getElem?_append_left (by omega), List.getElem?_take_of_lt h1, ← List.getD_eq_getElem?_getD]
  · by_cases h2 : t < p + m
    · rw [if_pos ⟨by omega, h2⟩, List.append_assoc, List.getElem?_append_right (by omega), List.getElem?_append_left (by omega), hl1, List.getElem?_map, List.getElem?_take_of_lt (by omega), List.getElem?_eq_getElem (by rw [Array.length_toList]; omega)]
      show (((s.data.toList[t - p]'(by rw [Array.length_toList]; omega)).toNat : Int)) = _
      have : s.get! (t - p) = s.data.toList[t - p]'(by rw [Array.length_toList]; omega) := by
        rw [Array.getElem_toList]
        show s.data[t - p]! = _
        rw [getElem!_pos s.data (t - p) (by omega)]
      rw [this]
    · rw [if_neg (by omega), List.getElem?_append_right (by rw [List.length_append]; omega), List.length_append, hl1, hl2, List.getElem?_drop, show p + m + (t - (p + m)) = t by omega, ← List.getD_eq_getElem?_getD]
theorem Own.copyS {w : World} {gd n c : Nat} {D : List Int} {p m : Nat} {s : ByteArray} (h : Own w 0 (.slice (some ⟨gd, 0, none⟩) n c) D) (hq : p + m ≤ D.length) (hs : m ≤ s.size) :
    ∃ W, (∀ ty cp, (Builtin.copy_ #[108, 9] ty #[.slice (some ⟨gd, p, none⟩) m cp, .string s]).run Try.prog w = .ok (goInt m) W) ∧ Own W 0 (.slice (some ⟨gd, 0, none⟩) n c) (putL D p m s) ∧ Kept [gd] w W := by
  obtain ⟨i0, hi, hz0, hz1, hz2⟩ := info_parts Try.info5
  obtain ⟨cur, hA, hn, hnc, hcm, hcl, hct, hxl⟩ := row_at h
  subst hn
  rw [Nat.mul_one] at hcl hct
  refine ⟨_, fun ty cp => run_copyS w 108 9 ty 5 5 gd p m cp s cur Try.underlying108 (by rw [hi]; show some i0.size = _; rw [hz1]) hA hs (by omega), ?_, kept_setRow _ _ _⟩
  have hl := putL_len hq hs
  have hsz : s.data.size = s.size := rfl
  have hl2 : ((s.data.toList.take m).map fun b => Value.int .u8 b.toNat).length = m := by
    simp only [List.length_take, List.length_map, Array.length_toList]
    omega
  unfold Own
  rw [hl]
  have key : ∀ (xs : List Value), xs = (putL D p m s).map (Value.int .u8) → (splice cur p ((s.data.toList.take m).map fun b => Value.int .u8 b.toNat)).take (D.length * 1) = xs := fun xs hx => by
    rw [Nat.mul_one, hx]
    unfold splice putL
    have e1 : cur.take p = (D.take p).map (Value.int .u8) := by
      rw [List.map_take, ← hct, List.take_take, Nat.min_eq_left (by omega)]
    have e2 : ((D.take p).map (Value.int IntKind.u8)).length = p := by simp; omega
    have e3 : (cur.drop (p + m)).take (D.length - (p + m)) = (D.drop (p + m)).map (Value.int .u8) := by rw [List.map_drop, ← hct, List.drop_take]
    have e4 : ((s.data.toList.take m).map fun b => (b.toNat : Int)).map (Value.int .u8) = (s.data.toList.take m).map fun b => Value.int .u8 b.toNat := by rw [List.map_map]; rfl
    rw [hl2, e1, List.map_append, List.map_append, e4, ← e3, ← List.append_assoc]
    have hX : ((D.take p).map (Value.int IntKind.u8) ++ (s.data.toList.take m).map fun b => Value.int .u8 b.toNat).length = p + m := by rw [List.length_append, e2, hl2]
    generalize ((D.take p).map (Value.int IntKind.u8) ++ (s.data.toList.take m).map fun b => Value.int .u8 b.toNat) = X at hX ⊢
    rw [List.take_append, List.take_of_length_le (l := X) (by rw [hX]; omega), hX]
  refine At.row hA.set ?_ hnc hcm ?_ (key _ rfl)
  · rw [List.length_map, hl, Nat.mul_one]
  · unfold splice
    simp only [List.length_append, List.length_take, List.length_drop, hl2]
    omega
end Go.Proofs.Ytbjgfoiikhbonaf
