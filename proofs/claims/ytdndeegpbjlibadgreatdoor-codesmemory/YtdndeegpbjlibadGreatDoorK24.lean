import Derived.Test.YtdndeegpbjlibadGreatDoorK23
import Derived.Test.YtdndeegpbjlibadGreatDoorK15
import Derived.Deep.CutRange
import Derived.Deep.OwnRows
namespace Go.Proofs.YtdndeegpbjlibadGreatDoor
open Go.ChangeShapes Go.WideShapes Go.ChangeAt Go.RowKit Go.Maps

/-! THE PROGRAM'S Decode. -/

theorem run_make_map (k : Int) (w : World) : (Instr.makeMap 72 (some (.int .i64 k))).run Tryz.prog w = .ok (.map (some w.heap.size)) (w.alloc (.map #[] 0)) := by
  simp [Instr.makeMap, run_underlying Tryz.underlying72, asInt, asIntOf, Result.andThen]
theorem run_make_bytes (n : Nat) (hn : n ≤ 512) (w : World) : (Instr.makeSlice 22 (.int .i64 (n : Int)) (.int .i64 (n : Int))).run Tryz.prog w = .ok (.slice (some ⟨w.heap.size, 0, none⟩) n n) (w.alloc (.cells ((List.replicate n (0 : Int)).map (Value.int .u8)).toArray 5)) := by
  have h := run_make_row' (P := Tryz.prog) 22 5 (.int .u8 0) 1 Tryz.underlying22 Tryz.info5 rfl .i64 .i64 n (by omega) (by omega) w
  have e : madeCells #[Value.int .u8 0] n = ((List.replicate n (0 : Int)).map (Value.int .u8)).toArray := by
    apply Array.ext'
    have := toList_madeCells_one (Value.int .u8 0) n
    rw [this]
    simp
  rw [e] at h
  exact h

def pdecErr (l : List Int) (k : Int) : Int := if softOk l && placesOk l.length k then 0 else 1

set_option maxRecDepth 100000 in
set_option maxHeartbeats 1000000 in
theorem pdecode_bad (l : List Int) (k : Int) (a : Option Addr) (c : Nat) (w : World) (ha : Rd .i64 w a l) (hz : l.length ≤ maxLen) (hE : (softOk l && placesOk l.length k) = false) :
    Calls Tryz.prog 14 #[.slice a l.length c, .int .i64 k] w fun e w' => e = .returned (.tuple #[.slice none 0 0, .int .i64 1]) ∧ w = w' := by
  have hmx : l.length ≤ 9223372036854775807 := by unfold maxLen at hz; omega
  have hck := csoft_any l a c w ha hz
  cases hs : softOk l with
  | false =>
    have e : softErr l = 1 := by unfold softErr; rw [hs]; rfl
    rw [e] at hck
    clear hE hs e
    go_enter Tryz.func14, Tryz.ntmps14
    go_wp2_with (first | (go_at_call 31; refine hck.mono ?_; rintro e w1 ⟨rfl, rfl⟩))
    go_ret2
    exact ⟨rfl, rfl⟩
  | true =>
    have e : softErr l = 0 := by unfold softErr; rw [hs]; rfl
    rw [e] at hck
    have hp : placesOk l.length k = false := by rw [hs] at hE; simpa using hE
    have hbad := pplaces_bad l.length k w (by omega) hp
    clear hE hs e hp
    go_enter Tryz.func14, Tryz.ntmps14
    go_wp2_with (first | (go_at_call 31; refine hck.mono ?_; rintro e w1 ⟨rfl, rfl⟩) | (go_at_call 35; refine hbad.mono ?_; rintro e w1 ⟨rfl, rfl⟩))
    go_ret2
    exact ⟨rfl, rfl⟩

theorem Kept.of_grown {w w' : World} {b : Nat} (h : w.grownBy w' (some b)) : Kept [b] w w' := ⟨h.os, h.tape, h.output, h.size, fun k hk hn => h.block k hk (fun e => hn (by simpa using e))⟩
theorem flags_open (n k : Nat) : flagsM (placesM n k) 0 n = openM n k := by
  unfold flagsM openM
  refine List.map_congr_left fun j hj => ?_
  have hj' : j < n := by simpa using hj
  rw [Nat.zero_add]
  unfold placesM
  cases h : isPlace n k j <;> simp [h, hj']
theorem within_soft {l : List Int} (h : softOk l = true) : Within l 100000 := fun j => by
  have := soft_at h j
  omega

/-- A new finder. -/
structure NewF (w wx : World) (k gf bm gd : Nat) : Prop where
  fin : FinderAt wx gf bm gd k
  map : wx.ownsMap Tryz.prog 3 (plainElem (H := Unit) Tryz.prog 3) bm 0 (.map [])
  arr : ArrAt .u8 5 wx gd (List.replicate k 0)
  gf0 : w.heap.size ≤ gf
  bm0 : w.heap.size ≤ bm
  gd0 : w.heap.size ≤ gd
  fd : gf ≠ gd
  fm : gf ≠ bm
  md : bm ≠ gd
  bel : Below w.heap.size w wx

theorem three0 (w : World) (x y z : Obj) : (((w.alloc x).alloc y).alloc z).drew.heap[w.heap.size]? = some x := by
  show (((w.alloc x).alloc y).alloc z).heap[w.heap.size]? = some x
  rw [Below.heap_alloc _ _ _ (by simp; omega), Below.heap_alloc _ _ _ (by simp)]
  exact heap_alloc_new w x
theorem three1 (w : World) (x y z : Obj) : (((w.alloc x).alloc y).alloc z).drew.heap[w.heap.size + 1]? = some y := by
  show (((w.alloc x).alloc y).alloc z).heap[w.heap.size + 1]? = some y
  rw [Below.heap_alloc _ _ _ (by simp)]
  have := heap_alloc_new (w.alloc x) y
  simpa using this
theorem three2 (w : World) (x y z : Obj) : (((w.alloc x).alloc y).alloc z).drew.heap[w.heap.size + 1 + 1]? = some z := by
  show (((w.alloc x).alloc y).alloc z).heap[w.heap.size + 1 + 1]? = some z
  have := heap_alloc_new ((w.alloc x).alloc y) z
  simpa using this
theorem threeB (w : World) (x y z : Obj) : Below w.heap.size w (((w.alloc x).alloc y).alloc z).drew :=
  ((((Below.refl _ w).alloc (Nat.le_refl _) x).alloc (by simp) y).alloc (by simp; omega) z).drew
theorem mkF {w W : World} {k gf bm gd : Nat} (hf : W.heap[gf]? = some (.cells #[.map (some bm), .slice (some ⟨gd, 0, none⟩) k k] 74 (0, 0))) (hb : W.heap[bm]? = some (.map #[] 0)) (hd : W.heap[gd]? = some (.cells (Array.replicate k (.int .u8 0)) 5 (0, 0)))
    (bel : Below w.heap.size w W) (h0 : w.heap.size ≤ gf) (h1 : w.heap.size ≤ bm) (h2 : w.heap.size ≤ gd) (n1 : gf ≠ gd) (n2 : gf ≠ bm) (n3 : bm ≠ gd) : NewF w W k gf bm gd := by
  refine ⟨⟨_, hf⟩, ?_, ?_, h0, h1, h2, n1, n2, n3, bel⟩
  · obtain ⟨es, clock, e, r⟩ := World.ownsMap_made w Tryz.prog 3 (plainElem (H := Unit) Tryz.prog 3)
    have e' := (heap_alloc_new w (.map #[] 0)).symm.trans e
    simp only [Option.some.injEq, Obj.map.injEq] at e'
    obtain ⟨rfl, rfl⟩ := e'
    exact ⟨_, _, hb, r⟩
  · unfold ArrAt
    rw [hd]
    simp

set_option maxRecDepth 100000 in
set_option maxHeartbeats 4000000 in
theorem pdecode_any (m : Nat) (l : List Int) (b1 o1 n k c : Nat) (w : World) (ha : Rd .i64 w (some ⟨b1, o1, none⟩) l) (hl : l.length = n) (hm : m ≤ 9) (hn : n = 2 ^ m) (hnc : n ≤ c) (hk : k ≤ n) (hs : softOk l = true) (hW : Wor w) :
    Calls Tryz.prog 14 #[.slice (some ⟨b1, o1, none⟩) n c, .int .i64 k] w fun e w' => ∃ g, e = .returned (.tuple #[.slice (some ⟨g, 0, none⟩) k k, .int .i64 0]) ∧ Own w' w.heap.size (.slice (some ⟨g, 0, none⟩) k k) (readM (placesM n k) (decP m l (openM n k))) ∧ Below w.heap.size w w' := by
  have h5 : n ≤ 512 := by rw [hn]; exact Nat.pow_le_pow_right (by omega) hm
  have h1 : 1 ≤ n := by rw [hn]; exact Nat.one_le_two_pow
  have hck := csoft_any l (some ⟨b1, o1, none⟩) c w ha (by unfold maxLen; omega)
  rw [hl, show softErr l = 0 by unfold softErr; rw [hs]; rfl] at hck
  have hpl := pplaces_any m n k w hm hn hk hW
  have HPL := hid (places_length hk)
  have HPI := hid ((ints_length (placesM n k)).trans HPL.out)
  have HL := hid hl
  have HN := hid hn
  have HSF := hid hs
  have lb1 := World.block_lt_of_cell? w _ (ha.get (j := 0) (by omega))
  have hmm := run_make_map (k : Int)
  have hmb := run_make_bytes k (by omega)
  clear hl hn hs
  go_enter Tryz.func14, Tryz.ntmps14
  go_upto_region 7 with (first | (go_at_call 31; refine hck.mono ?_; rintro e w1 ⟨rfl, rfl⟩) | (go_at_call 35; refine hpl.mono ?_; rintro e w1 ⟨gp, rfl, harP, hgp, hbel1⟩))
  go_cut [9] from 27 to 31 (fun t9 wx => ∃ gf bm gd, t9 = .pointer (some ⟨gf, 0, none⟩) ∧ NewF w1 wx k gf bm gd)
  case first =>
    go_region
    all_goals
      go_wp2_with fail
      go_meet
      first
        | exact ⟨_, _, _, rfl, mkF (three0 _ _ _ _) (three1 _ _ _ _) (three2 _ _ _ _) (threeB _ _ _ _) (by omega) (by omega) (by omega) (by omega) (by omega) (by omega)⟩
        | exact ⟨_, _, _, rfl, mkF (three0 _ _ _ _) (three2 _ _ _ _) (three1 _ _ _ _) (threeB _ _ _ _) (by omega) (by omega) (by omega) (by omega) (by omega) (by omega)⟩
        | exact ⟨_, _, _, rfl, mkF (three1 _ _ _ _) (three0 _ _ _ _) (three2 _ _ _ _) (threeB _ _ _ _) (by omega) (by omega) (by omega) (by omega) (by omega) (by omega)⟩
        | exact ⟨_, _, _, rfl, mkF (three1 _ _ _ _) (three2 _ _ _ _) (three0 _ _ _ _) (threeB _ _ _ _) (by omega) (by omega) (by omega) (by omega) (by omega) (by omega)⟩
        | exact ⟨_, _, _, rfl, mkF (three2 _ _ _ _) (three0 _ _ _ _) (three1 _ _ _ _) (threeB _ _ _ _) (by omega) (by omega) (by omega) (by omega) (by omega) (by omega)⟩
        | exact ⟨_, _, _, rfl, mkF (three2 _ _ _ _) (three1 _ _ _ _) (three0 _ _ _ _) (threeB _ _ _ _) (by omega) (by omega) (by omega) (by omega) (by omega) (by omega)⟩
  case rest =>
    obtain ⟨gf, bm, gd, rfl, NF⟩ := hcut
    have hs1 := hbel1.size
    have hgpl := harP.lt
    have hsc := NF.bel.size
    have harP1 := harP.below NF.bel hgpl
    have n1 := NF.fd
    have n2 := NF.fm
    have n3 := NF.md
    have q1 := NF.gf0
    have q2 := NF.bm0
    have q3 := NF.gd0
    have hbc := hbel1.trans (NF.bel.mono hs1)
    have hM0 : MapAt wc bm (placesM n k) 0 := NF.map
    have hF0 := NF.fin
    have hD0 := NF.arr
    have lbm := World.ownsMap.lt hM0
    have lgf := hF0.lt
    have lgd := hD0.lt
    clear NF hck hpl hmm hmb harP
    go_wp2
    go_loopw [34] (fun q wr => ∃ i : Nat, i ≤ k ∧ q = .int .i64 i ∧ wr.ownsMap Tryz.prog 3 (plainElem (H := Unit) Tryz.prog 3) bm i (dM (placesM n k) i) ∧ Kept [bm] wc wr) (fun q _ => k - (intOf q).toNat)
    case atStart => exact ⟨0, Nat.zero_le _, rfl, hM0, Kept.refl _ _⟩
    case round =>
      obtain ⟨i, hi, rfl, hM, hkept⟩ := hrel
      have hFr := hF0.kept hkept (by simpa using n2)
      by_cases hlt : i < k
      · obtain ⟨f0, f1⟩ := hFr.cells
        have g2 := (harP1.kept hkept (by simp; omega)).cell (j := i) (by rw [HPI.out]; exact hlt)
        rw [ints_at] at g2
        have hplt := places_at hk hlt
        have HDM := hid (show dM (placesM n k) (i + 1) = (dM (placesM n k) i).put (.int .i64 ((placesM n k).getD i 0 : Nat)) (.lit (.int .i64 i)) from rfl)
        generalize (placesM n k).getD i 0 = p at *
        have hkey : keyOf Tryz.prog 3 (.int .i64 (p : Int)) = some (.int .i64 (p : Int)) := keyOf_int_mk Tryz.underlying3 (WalkArith.wf_i64 (by omega))
        clear hFr
        go_wp2_with (first
          | (at_mapUpdate; refine wpList_mapUpdate_own _ rfl _ _ _ 72 rfl 3 3 Tryz.law3 Tryz.underlying72 _ bm i _ rfl hM (by unfold maxLen; omega) _ _ _ rfl rfl hkey _ [] (plainElem_int Tryz.underlying3 (WalkArith.wf_i64 (by omega))) ?_; intro w3 hM3 hg3))
        go_roundw
        case rel => exact ⟨i + 1, by omega, by go_num, HDM.out.symm ▸ hM3, hkept.trans (Kept.of_grown hg3)⟩
        case measure => simp [intOf]; omega
      · obtain rfl : k = i := by omega
        have hDr := hD0.kept hkept (by simpa using n3.symm)
        have hMr : MapAt wr bm (placesM n k) k := hM
        have hbr := hbc.trans (hkept.below (B := w.heap.size) (by omega) (by simp; omega))
        have hsr := hkept.size
        clear hM hM0 hF0 hD0 harP1 hkept
        go_wp2_with (first | (refine wpList_makeBytes wr.heap.size wr n rfl _ _ rfl _ _ rfl rfl rfl rfl (by omega) (Below.refl _ _) (Nat.le_refl _) ?_; intro w4 hown4 hbel4 hlt4; obtain ⟨har4, -, -⟩ := hown4.arr; clear hown4) | fail)
        have hk4 : Kept [] wr w4 := Kept.of_below hbel4
        have hM4 := hMr.kept hk4 (by simp)
        have hF4 := hFr.kept hk4 (by simp)
        have hD4 := hDr.kept hk4 (by simp)
        have hb4 := hbr.trans (hbel4.mono (by omega))
        have hFm : Fm (placesM n k) k gf bm gd wr.heap.size b1 := ⟨places_sorted n k, HPL.out, n1, by omega, n3, by omega, by omega, by omega, by omega⟩
        have hfi := find_any m (placesM n k) k gf bm gd wr.heap.size b1 o1 0 n c n 0 100000 l [] (List.replicate n 0) [] (List.replicate k 0) w4 hFm (ha.below hb4) HL.out HN.out h5 hnc (by simpa using har4) rfl (by simp) (Nat.le_refl _) hM4 hF4 hD4 (by simp) (by omega) (within_soft HSF.out) (by omega)
        rw [flags_open] at hfi
        have HUP := hid (upd_all (placesM n k) k HPL.out (decP m l (openM n k)) (decP_bits m l (openM n k)).at (fun x hx => by rw [decP_length, ← HN.out]; exact places_lt hx))
        rw [HUP.out] at hfi
        have HRL := hid (show (readM (placesM n k) (decP m l (openM n k))).length = k by simp [readM, HPL.out])
        obtain ⟨R, eR⟩ : ∃ R, R = readM (placesM n k) (decP m l (openM n k)) := ⟨_, rfl⟩
        rw [← eR] at hfi
        have HER := hid eR
        clear eR
        clear hM4 hD4 har4 hMr hDr hFr HUP
        refine hfi.mono ?_
        rintro e w5 ⟨rfl, hr5, hD5, hk5⟩
        have hF5 := hF4.kept hk5 (by simp; omega)
        obtain ⟨f0, f1⟩ := hF5.cells
        clear hfi hF4 hF5
        go_wp2
        go_ret2
        rw [HER.out] at hD5
        exact ⟨gd, rfl, own_of_arr hD5 (by omega) HRL.out (by unfold maxLen; omega), hb4.trans (hk5.below (B := w.heap.size) (by omega) (by simp; omega))⟩
end Go.Proofs.YtdndeegpbjlibadGreatDoor
