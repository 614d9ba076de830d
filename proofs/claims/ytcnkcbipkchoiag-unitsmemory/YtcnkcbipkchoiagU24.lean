import Derived.Test.YtcnkcbipkchoiagU21
import Derived.Test.YtcnkcbipkchoiagU22
import Derived.Test.YtcnkcbipkchoiagU23
import Derived.Test.YtcnkcbipkchoiagU18
import Derived.Test.YtcnkcbipkchoiagU20
import Derived.Deep.RegionHeld3
import Derived.Test.YtcnkcbipkchoiagU04
namespace Go.Proofs.Ytcnkcbipkchoiag
open Go.ChangeShapes Go.WideShapes Go.ChangeAt Go.RowKit
structure TkOk (x : TkP) : Prop where
  srt : Srt x.th
  hi : endS x.th ≤ 1500
  lh : x.len ≤ 1500
  dl : x.data.length = endS x.th
theorem TkOk.few {x : TkP} (h : TkOk x) : x.th.length ≤ 1500 := Nat.le_trans (h.srt.few h.srt.endLe) h.hi
theorem TkOk.zero : TkOk .zero := ⟨Srt.nil, Nat.zero_le _, Nat.zero_le _, rfl⟩
theorem TkOk.add {x x' : TkP} {a b : Nat} {s : ByteArray} {last : Bool} (h : TkOk x) (ha : AddM x x' a b s last) (hab : a < b) (hb : b ≤ 1500) : TkOk x' := by
  have he := ha.ends h.srt hab
  refine ⟨ha.srt, by rw [he]; have := h.hi; omega, ?_, by rw [he, ha.dl, h.dl]⟩
  rw [ha.ln]
  have := h.lh
  split <;> omega
theorem usOk_set {us : List TkP} {i : Nat} {x' : TkP} (h : ∀ j, TkOk (us.getD j .zero)) (hx : TkOk x') (hi : i < us.length) : ∀ j, TkOk ((us.set i x').getD j .zero) := fun j => by
  by_cases e : i = j
  · subst e; rw [getD_setTS hi]; exact hx
  · rw [getD_setTN e]; exact h j
theorem pieceOk {x : PieceM} (h : x.bad = false) : 0 ≤ x.num ∧ x.num ≤ 63 ∧ 0 ≤ x.frm ∧ x.a < x.b ∧ x.b ≤ 1500 ∧ 0 < x.data.size := by
  unfold PieceM.bad at h
  rw [decide_eq_false_iff_not] at h
  unfold PieceM.a PieceM.b
  omega
def RTakeOut (w : World) (b fs g c : Nat) (us : List TkP) (i : Nat) (x : PieceM) : Ending → World → Prop := fun e w' => ∃ x' w6, AddM (us.getD i .zero) x' x.a x.b x.data x.last ∧ PRcv w6 b fs g c (us.set i x') ∧ Kept (rcvF b g us) w w6 ∧ Grown w.heap.size (rcvF b g us) (rcvF b g (us.set i x')) ∧ ∃ k a cc, e = .returned (.tuple #[.slice a k cc, .int .i64 0]) ∧ TellPost w6 b fs g c (us.set i x') (.returned (.slice a k cc)) w'
def TAd (W : World) (b fs g c : Nat) (us : List TkP) (i : Nat) (x : PieceM) : Ending → World → Prop := fun e w' => e = .returned (.tuple #[]) ∧ ∃ x', AddM (us.getD i .zero) x' x.a x.b x.data x.last ∧ PRcv w' b fs g c (us.set i x') ∧ Kept (rcvF b g us) W w' ∧ Grown W.heap.size (rcvF b g us) (rcvF b g (us.set i x'))
theorem tad_any {W : World} {b fs g c i : Nat} {us : List TkP} {x : PieceM} (h : PRcv W b fs g c us) (hus : ∀ j, TkOk (us.getD j .zero)) (hi : i < us.length) (hx : x.bad = false) :
    Calls Try.prog 94 #[.pointer (some ⟨g, i * 3, none⟩), x.val] W (TAd W b fs g c us i x) := by
  obtain ⟨h1, h2, h3, h4, h5, h6⟩ := pieceOk hx
  obtain ⟨cur, hA, -⟩ := row_at h.own
  refine (tadd_any x (h.un hi) hA (hus i).srt (hus i).hi (hus i).dl h3 h5 h6).mono ?_
  rintro e w' ⟨rfl, x', hp, ha⟩
  refine ⟨rfl, x', ha, h.upd hi hp, hp.kept.wider (fun q hq => ?_), rcvF_upd hi hp.nk⟩
  rw [List.mem_cons, List.mem_append] at hq
  rcases hq with rfl | e | e
  · exact rcvF_g _ _ _
  · exact rcvF_k (i := i) (k := false) (by simpa using e)
  · exact rcvF_k (i := i) (k := true) (by simpa using e)
set_option maxRecDepth 100000 in
set_option maxHeartbeats 2000000 in
theorem rtake_none {w : World} {b fs g c : Nat} {us : List TkP} (x : PieceM) (h : PRcv w b fs g c us) (_hl : us.length ≤ 32) (hfs : fs < 64) (hus : ∀ j, TkOk (us.getD j .zero)) (hs : x.data.size ≤ manyB) (E : Int)
    (hE : (x.bad = true ∧ E = 3) ∨ (x.bad = false ∧ us.length ≤ aheadN x.num fs ∧ E = 8) ∨ (x.bad = false ∧ aheadN x.num fs < us.length ∧ (us.getD (aheadN x.num fs) .zero).clash x = true ∧ E = 3)) :
    Calls Try.prog 40 #[.pointer (some ⟨b, 0, none⟩), x.val] w fun e w' => e = .returned (.tuple #[.slice none 0 0, .int .i64 E]) ∧ Below w.heap.size w w' := by
  have c0 : w.cell? ⟨b, 0, none⟩ = some (.int .i64 (fs : Int)) := h.hd.cell 0
  have c1 : w.cell? ⟨b, 1, none⟩ = some (.slice (some ⟨g, 0, none⟩) us.length c) := h.hd.cell 1
  have hcp := fun W => checkPiece_any (w := W) x hs
  obtain ⟨W2, eW2⟩ : ∃ W2, W2 = (w.alloc (.cells #[.int .i64 x.num, .int .i64 x.frm, .bool x.last, .string x.data] 100)).alloc (.cells #[.int .i64 x.num, .int .i64 x.frm, .bool x.last, .string x.data] 100) := ⟨_, rfl⟩
  have hk : Kept [] w W2 := by rw [eW2]; exact ((Kept.refl _ w).alloc _).alloc _
  have hbW : Below w.heap.size w W2 := hk.below (Nat.le_refl _) (by simp)
  have hp2 : At W2 w.heap.size 100 x.cells := by
    rw [eW2]
    exact At.kept (at_alloc w _ x.cells) ((Kept.refl [] _).alloc _) (by simp)
  have x0 : W2.cell? ⟨w.heap.size, 0, none⟩ = some (.int .i64 x.num) := hp2.cell 0
  have x1 : W2.cell? ⟨w.heap.size, 1, none⟩ = some (.int .i64 x.frm) := hp2.cell 1
  have x2 : W2.cell? ⟨w.heap.size, 2, none⟩ = some (.bool x.last) := hp2.cell 2
  have x3 : W2.cell? ⟨w.heap.size, 3, none⟩ = some (.string x.data) := hp2.cell 3
  have k0 := keptCellQ hk c0 (by simp)
  have k1 := keptCellQ hk c1 (by simp)
  have hA0 := at_alloc w 100 x.cells
  have v0 : (w.alloc (.cells #[.int .i64 x.num, .int .i64 x.frm, .bool x.last, .string x.data] 100)).cell? ⟨w.heap.size, 0, none⟩ = some (.int .i64 x.num) := hA0.cell 0
  have v1 : (w.alloc (.cells #[.int .i64 x.num, .int .i64 x.frm, .bool x.last, .string x.data] 100)).cell? ⟨w.heap.size, 1, none⟩ = some (.int .i64 x.frm) := hA0.cell 1
  have v2 : (w.alloc (.cells #[.int .i64 x.num, .int .i64 x.frm, .bool x.last, .string x.data] 100)).cell? ⟨w.heap.size, 2, none⟩ = some (.bool x.last) := hA0.cell 2
  have v3 : (w.alloc (.cells #[.int .i64 x.num, .int .i64 x.frm, .bool x.last, .string x.data] 100)).cell? ⟨w.heap.size, 3, none⟩ = some (.string x.data) := hA0.cell 3
  obtain ⟨N, hN⟩ : ∃ N, N = us.length := ⟨_, rfl⟩
  rw [← hN] at k1 hE
  have HB := hid hbW
  generalize hP : (fun (e : Ending) (w' : World) => e = .returned (.tuple #[.slice none 0 0, .int .i64 E]) ∧ Below w.heap.size w w') = P
  have HP := hid hP
  have hPR := fun (n : Nat) => h.kept (w' := W2.drewN n) (hk.drewN n) (by simp)
  have HPR := hid hPR
  have HUS := hid hus
  have HN := hid hN
  clear h hk hbW hp2 hA0 hP hPR hus c0 c1 hN
  rcases hE with ⟨hb1, rfl⟩ | ⟨hb1, hq, rfl⟩ | ⟨hb1, hq, hcl, rfl⟩
  · rw [hb1, if_pos rfl] at hcp
    clear hb1
    obtain ⟨num, frm, last, data⟩ := x
    dsimp only [PieceM.val] at *
    go_enter Try.func40, Try.ntmps40
    go_wp2_with (go_at_call 91; refine (hcp _).mono ?_; rintro e w1 ⟨rfl, rfl⟩)
    rw [← HP.out, ← eW2]
    exact ⟨rfl, HB.out⟩
  · rw [hb1, if_neg (by simp)] at hcp
    obtain ⟨hn1, hn2, -⟩ := pieceOk hb1
    have hah := fun W => ahead_at (k := x.num) (bg := fs) W hfs hn1 hn2
    clear hb1
    obtain ⟨num, frm, last, data⟩ := x
    dsimp only [PieceM.val] at *
    have hA64 : aheadN num fs < 64 := by unfold aheadN; omega
    generalize aheadN num fs = A at *
    have d1 : decide ((N : Int) ≤ (A : Int)) = true := decide_eq_true (by omega)
    go_enter Try.func40, Try.ntmps40
    go_upto_region 4 with (go_at_call 91; refine (hcp _).mono ?_; rintro e w1 ⟨rfl, rfl⟩)
    rw [← eW2]
    clear eW2 v0 v1 v2 v3
    go_quiet (first | (go_at_call 92; exact Calls.quiet_of_same (hah _)))
    go_wp2_with fail
    rw [← HP.out]
    exact ⟨rfl, belowN HB.out _⟩
  · rw [hb1, if_neg (by simp)] at hcp
    obtain ⟨hn1, hn2, hn3, hn4, hn5, hn6⟩ := pieceOk hb1
    have hah := fun W => ahead_at (k := x.num) (bg := fs) W hfs hn1 hn2
    have hck := fun n => tcheck_any x ((HPR.out n).un (i := aheadN x.num fs) (by rw [← HN.out]; exact hq)) (by have := (HUS.out (aheadN x.num fs)).lh; omega) (by have := (HUS.out (aheadN x.num fs)).hi; omega) (by have := (HUS.out (aheadN x.num fs)).few; omega) hn3 (by omega)
    rw [hcl, if_pos rfl] at hck
    clear hb1 hcl
    obtain ⟨num, frm, last, data⟩ := x
    dsimp only [PieceM.val] at *
    have hA64 : aheadN num fs < 64 := by unfold aheadN; omega
    generalize aheadN num fs = A at *
    have d1 : decide ((N : Int) ≤ (A : Int)) = false := decide_eq_false (by omega)
    have hnle : ¬ (N ≤ A) := by omega
    go_enter Try.func40, Try.ntmps40
    go_upto_region 4 with (go_at_call 91; refine (hcp _).mono ?_; rintro e w1 ⟨rfl, rfl⟩)
    rw [← eW2]
    clear eW2 v0 v1 v2 v3
    go_quiet (first | (go_at_call 92; exact Calls.quiet_of_same (hah _)))
    go_wp2_with (go_at_call 93; refine (hck _).mono ?_; rintro e w5 ⟨rfl, rfl⟩)
    rw [← HP.out]
    exact ⟨rfl, (belowN HB.out _).alloc (by have := HB.out.size; simpa using this) _⟩
set_option maxRecDepth 100000 in
set_option maxHeartbeats 2000000 in
theorem rtake_some {w : World} {b fs g c : Nat} {us : List TkP} (x : PieceM) (h : PRcv w b fs g c us) (hl : us.length ≤ 32) (hfs : fs < 64) (hus : ∀ j, TkOk (us.getD j .zero)) (hs : x.data.size ≤ manyB) (hb1 : x.bad = false) (hE : aheadN x.num fs < us.length) (hcl : (us.getD (aheadN x.num fs) .zero).clash x = false) :
    Calls Try.prog 40 #[.pointer (some ⟨b, 0, none⟩), x.val] w (RTakeOut w b fs g c us (aheadN x.num fs) x) := by
  have c0 : w.cell? ⟨b, 0, none⟩ = some (.int .i64 (fs : Int)) := h.hd.cell 0
  have c1 : w.cell? ⟨b, 1, none⟩ = some (.slice (some ⟨g, 0, none⟩) us.length c) := h.hd.cell 1
  have hcp := fun W => checkPiece_any (w := W) x hs
  obtain ⟨W2, eW2⟩ : ∃ W2, W2 = (w.alloc (.cells #[.int .i64 x.num, .int .i64 x.frm, .bool x.last, .string x.data] 100)).alloc (.cells #[.int .i64 x.num, .int .i64 x.frm, .bool x.last, .string x.data] 100) := ⟨_, rfl⟩
  have hk : Kept [] w W2 := by rw [eW2]; exact ((Kept.refl _ w).alloc _).alloc _
  have hbW : Below w.heap.size w W2 := hk.below (Nat.le_refl _) (by simp)
  have hp2 : At W2 w.heap.size 100 x.cells := by
    rw [eW2]
    exact At.kept (at_alloc w _ x.cells) ((Kept.refl [] _).alloc _) (by simp)
  have x0 : W2.cell? ⟨w.heap.size, 0, none⟩ = some (.int .i64 x.num) := hp2.cell 0
  have x1 : W2.cell? ⟨w.heap.size, 1, none⟩ = some (.int .i64 x.frm) := hp2.cell 1
  have x2 : W2.cell? ⟨w.heap.size, 2, none⟩ = some (.bool x.last) := hp2.cell 2
  have x3 : W2.cell? ⟨w.heap.size, 3, none⟩ = some (.string x.data) := hp2.cell 3
  have k0 := keptCellQ hk c0 (by simp)
  have k1 := keptCellQ hk c1 (by simp)
  have hA0 := at_alloc w 100 x.cells
  have v0 : (w.alloc (.cells #[.int .i64 x.num, .int .i64 x.frm, .bool x.last, .string x.data] 100)).cell? ⟨w.heap.size, 0, none⟩ = some (.int .i64 x.num) := hA0.cell 0
  have v1 : (w.alloc (.cells #[.int .i64 x.num, .int .i64 x.frm, .bool x.last, .string x.data] 100)).cell? ⟨w.heap.size, 1, none⟩ = some (.int .i64 x.frm) := hA0.cell 1
  have v2 : (w.alloc (.cells #[.int .i64 x.num, .int .i64 x.frm, .bool x.last, .string x.data] 100)).cell? ⟨w.heap.size, 2, none⟩ = some (.bool x.last) := hA0.cell 2
  have v3 : (w.alloc (.cells #[.int .i64 x.num, .int .i64 x.frm, .bool x.last, .string x.data] 100)).cell? ⟨w.heap.size, 3, none⟩ = some (.string x.data) := hA0.cell 3
  obtain ⟨N, hN⟩ : ∃ N, N = us.length := ⟨_, rfl⟩
  rw [← hN] at k1 hE hl
  have HB := hid hbW
  generalize hP : RTakeOut w b fs g c us (aheadN x.num fs) x = P
  have HP := hid hP
  have hPR := fun (n : Nat) => h.kept (w' := W2.drewN n) (hk.drewN n) (by simp)
  have HPR := hid hPR
  have HUS := hid hus
  have HN := hid hN
  clear h hk hbW hp2 hA0 hP hPR hus c0 c1 hN
  have hq := hE
  rw [hb1, if_neg (by simp)] at hcp
  obtain ⟨hn1, hn2, hn3, hn4, hn5, hn6⟩ := pieceOk hb1
  have hah := fun W => ahead_at (k := x.num) (bg := fs) W hfs hn1 hn2
  have hck := fun n => tcheck_any x ((HPR.out n).un (i := aheadN x.num fs) (by rw [← HN.out]; exact hq)) (by have := (HUS.out (aheadN x.num fs)).lh; omega) (by have := (HUS.out (aheadN x.num fs)).hi; omega) (by have := (HUS.out (aheadN x.num fs)).few; omega) hn3 (by omega)
  rw [hcl, if_neg (by simp)] at hck
  have hHL : Hid (us.length ≤ 32) := hid (by rw [← HN.out]; exact hl)
  have had := fun n => tad_any (i := aheadN x.num fs) (x := x) (W := (W2.drewN n).alloc (.cells #[.int .i64 x.num, .int .i64 x.frm, .bool x.last, .string x.data] 100)) ((HPR.out n).kept ((Kept.refl [] _).alloc _) (by simp)) HUS.out (by rw [← HN.out]; exact hq) hb1
  have HFS := hid hfs
  have HT : Hid (∀ x' w6, AddM (us.getD (aheadN x.num fs) .zero) x' x.a x.b x.data x.last → PRcv w6 b fs g c (us.set (aheadN x.num fs) x') → Calls Try.prog 95 #[.pointer (some ⟨b, 0, none⟩)] w6 (TellPost w6 b fs g c (us.set (aheadN x.num fs) x'))) := hid fun x' w6 ha h6 => by
    have hu := usOk_set (i := aheadN x.num fs) HUS.out ((HUS.out (aheadN x.num fs)).add ha hn4 hn5) (by rw [← HN.out]; exact hq)
    exact tell_any h6 (by rw [List.length_set]; exact hHL.out) HFS.out (fun i => by have := (hu i).few; omega) (fun i => by have := (hu i).lh; omega) (fun i => by have := (hu i).hi; have := (hu i).dl; omega)
  have HXE : Hid (RTakeOut w b fs g c us (aheadN x.num fs) x = P) := HP
  obtain ⟨XV, eXV⟩ : ∃ XV, XV = x := ⟨_, rfl⟩
  have hA64 : aheadN x.num fs < 64 := by unfold aheadN; omega
  rw [← eXV] at HT HXE had
  have hxv : x.val = .agg #[.int .i64 x.num, .int .i64 x.frm, .bool x.last, .string x.data] := rfl
  have hxv2 : XV.val = .agg #[.int .i64 x.num, .int .i64 x.frm, .bool x.last, .string x.data] := by rw [eXV]; rfl
  rw [hxv2] at had
  rw [hxv] at hck hcp ⊢
  have eNum : XV.num = x.num := by rw [eXV]
  have eFrm : XV.frm = x.frm := by rw [eXV]
  have eLast : XV.last = x.last := by rw [eXV]
  have eData : XV.data = x.data := by rw [eXV]
  rw [eNum] at had HT HXE
  rw [eFrm, eLast, eData] at had
  clear hb1 hcl hxv hxv2 eNum eFrm eLast eData HP hE hs
  generalize aheadN x.num fs = A at *
  generalize x.num = num at *
  generalize x.frm = frm at *
  generalize x.last = last at *
  generalize x.data = data at *
  have d1 : decide ((N : Int) ≤ (A : Int)) = false := decide_eq_false (by omega)
  have hnle : ¬ (N ≤ A) := by omega
  go_enter Try.func40, Try.ntmps40
  go_upto_region 4 with (go_at_call 91; refine (hcp _).mono ?_; rintro e w1 ⟨rfl, rfl⟩)
  rw [← eW2]
  clear eW2 v0 v1 v2 v3
  go_quiet (first | (go_at_call 92; exact Calls.quiet_of_same (hah _)))
  have hadn := had nq
  have hckn := hck nq
  have hBn := hid (belowN HB.out nq)
  have hp0 : ((W2.drewN nq).alloc (.cells #[.int .i64 num, .int .i64 frm, .bool last, .string data] 100)).cell? ⟨w.heap.size, 0, none⟩ = some (.int .i64 num) := keptCellQ ((Kept.refl [] W2).drewN nq |>.alloc _) x0 (by simp)
  have hp1 : ((W2.drewN nq).alloc (.cells #[.int .i64 num, .int .i64 frm, .bool last, .string data] 100)).cell? ⟨w.heap.size, 1, none⟩ = some (.int .i64 frm) := keptCellQ ((Kept.refl [] W2).drewN nq |>.alloc _) x1 (by simp)
  have hp2 : ((W2.drewN nq).alloc (.cells #[.int .i64 num, .int .i64 frm, .bool last, .string data] 100)).cell? ⟨w.heap.size, 2, none⟩ = some (.bool last) := keptCellQ ((Kept.refl [] W2).drewN nq |>.alloc _) x2 (by simp)
  have hp3 : ((W2.drewN nq).alloc (.cells #[.int .i64 num, .int .i64 frm, .bool last, .string data] 100)).cell? ⟨w.heap.size, 3, none⟩ = some (.string data) := keptCellQ ((Kept.refl [] W2).drewN nq |>.alloc _) x3 (by simp)
  have hB5 := hid (hBn.out.alloc (by have := hBn.out.size; simpa using this) (.cells #[.int .i64 num, .int .i64 frm, .bool last, .string data] 100))
  clear had hck hcp hah hBn
  generalize (W2.drewN nq).alloc (.cells #[.int .i64 num, .int .i64 frm, .bool last, .string data] 100) = W5 at *
  go_wp2_with (first
    | (go_at_call 93; refine hckn.mono ?_; rintro e w5 ⟨rfl, ew5⟩; subst ew5)
    | (go_at_call 94; refine hadn.mono ?_; rintro e w6 ⟨rfl, x', ha, h6, hk6, hg6⟩; have HA6 := hid ha; have H6 := hid h6; have HK6 := hid hk6; have HG6 := hid hg6; have htl := HT.out x' w6 ha h6; clear ha h6 hk6 hg6)
    | (go_at_call 95; refine htl.mono ?_; rintro e w7 hT; obtain ⟨k, a, cc, q1, rfl, q2⟩ := id hT; have HT7 := hid hT; clear hT q1 q2))
  rw [← HXE.out]
  refine ⟨x', w6, HA6.out, H6.out, ?_, ?_, k, a, cc, rfl, HT7.out⟩
  · exact (Kept.of_below hB5.out).trans HK6.out
  · exact fun q hq => (HG6.out q hq).elim .inl (fun h => .inr (Nat.le_trans hB5.out.size h))
end Go.Proofs.Ytcnkcbipkchoiag
namespace Go.Proofs.Ytcnkcbipkchoiag
open Go.ChangeShapes Go.WideShapes Go.ChangeAt Go.RowKit
theorem Try.infoGa : (Try.prog.info? 107).map (fun i => (i.zero, i.size, i.bytes)) = some (some (.agg #[.int .i64 0, .int .i64 0, .int .i64 0]), 3, 24) := by kernel_rfl
def cellsGp (l : List GapM) : List Value := l.flatMap GapM.cells
theorem cellsGp_app (l r : List GapM) : cellsGp (l ++ r) = cellsGp l ++ cellsGp r := by simp [cellsGp]
theorem cellsGp_at (l : List GapM) : ∀ i k, i < l.length → k < 3 → (cellsGp l)[i * 3 + k]? = (l.getD i .zero).cells[k]? := by
  induction l with
  | nil => intro i k hi; simp at hi
  | cons x l ih =>
    intro i k hi hk
    have e : cellsGp (x :: l) = x.cells ++ cellsGp l := rfl
    cases i with
    | zero => rw [e, List.getElem?_append_left (by show 0 * 3 + k < 3; omega), Nat.zero_mul, Nat.zero_add]; rfl
    | succ i =>
      rw [List.length_cons] at hi
      rw [e, List.getElem?_append_right (by show 3 ≤ _; omega), show (i + 1) * 3 + k - x.cells.length = i * 3 + k by show _ - 3 = _; omega, ih i k (by omega) hk]
      rfl
theorem gps_row {w : World} {B n c : Nat} {a : Option Addr} {l : List GapM} (h : w.ownsRow B 107 3 (.slice a n c) l.length (cellsGp l)) : Gps w a l := by
  intro hne
  have h0 : 0 < l.length := List.length_pos_iff.2 hne
  have hn := row_len h
  subst hn
  obtain ⟨a', c', e, -, -, hx⟩ := row_shape h
  simp only [Value.slice.injEq] at e
  obtain ⟨rfl, -, rfl⟩ := e
  rcases h.2 with ⟨h', h''⟩ | ⟨g, cap, cur, h', -, -⟩
  · omega
  · simp only [Value.slice.injEq] at h'
    obtain ⟨rfl, -, -⟩ := h'
    obtain ⟨cur, hA, -, -, -, -, hct, -⟩ := row_at h
    refine ⟨g, 0, rfl, fun i hi => ?_⟩
    have hat : ∀ k, k < 3 → w.cell? ⟨g, 0 + i * 3 + k, none⟩ = (l.getD i .zero).cells[k]? := fun k hk => by
      rw [Nat.zero_add, hA.cell, ← cellsGp_at l i k hi hk, ← hct, List.getElem?_take_of_lt (by omega)]
    exact ⟨hat 0 (by omega), hat 1 (by omega), hat 2 (by omega)⟩
def gapsOf (fs i : Nat) (x : TkP) : List GapM := x.gaps.map fun q => ⟨(((fs + i) % 64 : Nat) : Int), q.1, q.2⟩
def gapsTo (fs : Nat) (us : List TkP) (i : Nat) : List GapM := (List.range i).flatMap fun i => gapsOf fs i (us.getD i .zero)
theorem gapsTo_succ (fs : Nat) (us : List TkP) (i : Nat) : gapsTo fs us (i + 1) = gapsTo fs us i ++ gapsOf fs i (us.getD i .zero) := by
  unfold gapsTo
  rw [List.range_succ, List.flatMap_append]
  simp
theorem TkP.gaps_len {x : TkP} {n : Nat} (h : x.th.length ≤ n) : x.gaps.length ≤ n + 2 := by
  unfold TkP.gaps
  split
  · rw [List.length_append, intsS_len]
    have := gapsM_len (hi := endS x.th) (l := x.th) (lo := 0)
    simp
    omega
  · rw [intsS_len]
    have := gapsM_len (hi := x.len) (l := x.th) (lo := 0)
    omega
theorem gapsTo_len {fs : Nat} {us : List TkP} {n : Nat} (h : ∀ i, (us.getD i .zero).th.length ≤ n) : ∀ i, (gapsTo fs us i).length ≤ i * (n + 2)
  | 0 => by simp [gapsTo]
  | i + 1 => by
    rw [gapsTo_succ, List.length_append]
    have h1 := gapsTo_len h i (fs := fs)
    have h2 : (gapsOf fs i (us.getD i .zero)).length ≤ n + 2 := by unfold gapsOf; rw [List.length_map]; exact TkP.gaps_len (h i)
    rw [Nat.add_mul]
    omega
/-- The report under way. -/
structure RpAt (w wr : World) (nx : Int) (L : List GapM) (a : Option Addr) (c : Nat) : Prop where
  row : At wr (w.heap.size + 1) 91 [.int .i64 nx, .slice a L.length c]
  res : At wr w.heap.size 91 [.int .i64 0, .slice none 0 0]
  own : wr.ownsRow (w.heap.size + 2) 107 3 (.slice a L.length c) L.length (cellsGp L)
  bel : Below w.heap.size w wr
theorem RpAt.later {w wr w' : World} {nx : Int} {L : List GapM} {a : Option Addr} {c : Nat} (h : RpAt w wr nx L a c) (hb : Below wr.heap.size wr w') : RpAt w w' nx L a c := by
  have hk : Kept [] wr w' := Kept.of_below hb
  refine ⟨h.row.kept hk (by simp), h.res.kept hk (by simp), ?_, h.bel.trans (hb.mono h.bel.size)⟩
  have h1 := World.ownsRow.lt h.own
  have h2 := keptRow (B := w.heap.size + 2) h.own hk (by simp)
  exact h2
end Go.Proofs.Ytcnkcbipkchoiag
