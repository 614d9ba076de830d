import Derived.Test.YtcnkcbipkchoiagU46
import Derived.Test.YtcnkcbipkchoiagU01
import Derived.Deep.MidRow
import Derived.Test.YtcnkcbipkchoiagU04
import Derived.OwnWalk
import Derived.Deep.CutRange
import Derived.Test.YtcnkcbipkchoiagU37
namespace Go.Proofs.Ytcnkcbipkchoiag
open Go.ChangeShapes Go.WideShapes Go.ChangeAt Go.RowKit Go.Maps
def areaF (c : Nat) : Nat := c - (c - 1) % 8
def areaK (c : Nat) : Nat := min 8 (101 - areaF c)
def areaT (f k : Nat) : List Int := (List.range k).map fun i => ((f + i : Nat) : Int)
theorem areaT_succ (f k : Nat) : areaT f (k + 1) = areaT f k ++ [((f + k : Nat) : Int)] := by
  unfold areaT
  rw [List.range_succ, List.map_append]
  rfl
theorem areaT_len (f k : Nat) : (areaT f k).length = k := by simp [areaT]
theorem area_all : ((List.range 101).all fun c => c == 0 || areaL c == areaT (areaF c) (areaK c)) = true := by kernel_rfl
theorem area_eq {c : Nat} (h1 : 1 ≤ c) (h2 : c ≤ 100) : areaL c = areaT (areaF c) (areaK c) := by
  have := List.all_eq_true.1 area_all c (List.mem_range.2 (by omega))
  simp only [Bool.or_eq_true, beq_iff_eq] at this
  rcases this with h | h
  · omega
  · exact h
set_option maxHeartbeats 1000000 in
theorem carea_any (c : Nat) (w : World) (h1 : 1 ≤ c) (h2 : c ≤ 100) : Calls Try.prog 79 #[.int .i64 (c : Int)] w fun e w' => ∃ a cc, e = .returned (.slice a (areaL c).length cc) ∧ OwnI w' w.heap.size (.slice a (areaL c).length cc) (areaL c) ∧ Below w.heap.size w w' := by
  rw [area_eq h1 h2, areaT_len]
  obtain ⟨f, ef⟩ : ∃ f, f = areaF c := ⟨_, rfl⟩
  obtain ⟨K, eK⟩ : ∃ K, K = areaK c := ⟨_, rfl⟩
  have hf : ((c : Int) - (((c : Int) - 1) % 8)) = (f : Int) := by rw [ef]; unfold areaF; omega
  have hfr : 1 ≤ f ∧ f ≤ 100 := by rw [ef]; unfold areaF; omega
  have hK : K = min 8 (101 - f) := by rw [eK, ef]; rfl
  rw [← ef, ← eK]
  have hc0 : 0 ≤ (c : Int) - 1 := by omega
  clear ef eK
  go_enter Try.func79, Try.ntmps79
  go_wp2_with fail
  go_loopw [4, 5] (fun vm vi wr => ∃ (k cc : Nat) (a : Option Addr), k ≤ K ∧ vi = .int .i64 ((f + k : Nat) : Int) ∧ vm = .slice a k cc ∧ Hid (OwnI wr w.heap.size (.slice a k cc) (areaT f k)) ∧ Hid (Below w.heap.size w wr)) (fun _ vi _ => 200 - (intOf vi).toNat)
  case atStart => exact ⟨0, 0, none, by omega, by simp [*], rfl, hid (OwnI.nil _ _), hid (Below.refl _ _)⟩
  case round =>
    obtain ⟨k, cc, a, hk, rfl, rfl, HO, HB⟩ := hrel
    by_cases hlt : k < K
    · have d1 : ((f + k : Nat) : Int) < (f : Int) + 8 := by omega
      have d2 : ((f + k : Nat) : Int) ≤ 100 := by omega
      have HLL : Hid ((areaT f k).length < 8796093022208) := hid (by rw [areaT_len]; omega)
      obtain ⟨y, ey⟩ : ∃ y : Int, y = ((f + k : Nat) : Int) := ⟨_, rfl⟩
      rw [← ey] at d1 d2 ⊢
      have hy : 1 ≤ y := by omega
      have HY := hid ey
      clear ey
      go_wp2_with (at_builtin; refine wpList_pushI w.heap.size w y HO.out rfl _ _ rfl rfl rfl HLL.out HB.out HB.out.size ?_; intro v3 w3 ho3 hb3; obtain ⟨a3, c3, ev3, -, -⟩ := OwnI.shape ho3; subst ev3; have HO3 := hid ho3; have HB3 := hid hb3; clear ho3 hb3)
      go_roundw
      case rel =>
        have h9 := HO3.out
        rw [HY.out, ← areaT_succ, areaT_len] at h9
        refine ⟨k + 1, c3, a3, by omega, ?_, ?_, hid h9, HB3⟩
        · have := HY.out
          simp
          omega
        · simp [areaT_len]
      case measure => simp [intOf]; omega
    · have ek : k = K := by omega
      subst ek
      obtain ⟨y, ey⟩ : ∃ y : Int, y = ((f + k : Nat) : Int) := ⟨_, rfl⟩
      by_cases d1 : y < (f : Int) + 8
      · have d2 : ¬ y ≤ 100 := by omega
        rw [← ey]
        clear ey hK
        go_wp2_with fail
        go_ret
        exact ⟨a, cc, rfl, HO.out, HB.out⟩
      · rw [← ey]
        clear ey hK
        go_wp2_with fail
        go_ret
        exact ⟨a, cc, rfl, HO.out, HB.out⟩
theorem page_one {m : CoM} {k : Int} {p : PrM} (hp : m.per k = some p) (h : p.st = 1) : m.page k = [(p.cell : Int)] := by unfold CoM.page; rw [hp]; simp [h]
theorem page_area {m : CoM} {k : Int} {p : PrM} (hp : m.per k = some p) (h : p.st = 2) : m.page k = areaL p.cell := by unfold CoM.page; rw [hp]; simp [h]
theorem page_bad {m : CoM} {k : Int} (h : m.pageErr k ≠ 0) : m.page k = [] := by
  unfold CoM.page
  unfold CoM.pageErr CoM.askErr at h
  cases hp : m.per k with
  | none => rfl
  | some p =>
    rw [hp] at h
    by_cases e : p.st = 0
    · simp [e]
    · simp [tNot, e] at h
def PagePost (w : World) (m : CoM) (k : Int) : Ending → World → Prop := fun e w' => ∃ a cc, e = .returned (.tuple #[.slice a (m.page k).length cc, .int .i64 (m.pageErr k)]) ∧ OwnI w' w.heap.size (.slice a (m.page k).length cc) (m.page k) ∧ Below w.heap.size w w'
set_option maxRecDepth 100000 in
set_option maxHeartbeats 1000000 in
theorem cpage_any {w : World} {c : Nat} {F : List Nat} {m : CoM} {n : Nat} {k : Int} (h : PCo w c F m n) (hk : In64 k) : Calls Try.prog 28 #[ptrV c, .int .i64 k] w (PagePost w m k) := by
  obtain ⟨N, rfl, h⟩ := h
  have hi := cisNot_any 0 w
  have hb2 : Below w.heap.size w (w.alloc (.cells #[.int .i64 0] 141)) := (Below.refl _ w).alloc (Nat.le_refl _) _
  have hr : Rd .i64 (w.alloc (.cells #[.int .i64 0] 141)) none [] := Rd.nil _ _ _
  have hc0 : (w.alloc (.cells #[.int .i64 0] 141)).cell? ⟨w.heap.size, 0, none⟩ = some (.int .i64 ((0 : Nat) : Int)) := cell_oneC w _ 0
  have h2 := h.kept (Kept.of_below (S := []) hb2) (by simp)
  have ha := caskNot (cc := 0) h2 hk (asks_isNot (s := 0) hc0) hr (by simp)
  by_cases hE : m.pageErr k = 0
  · obtain ⟨p, hp, hcs, ht⟩ := CoM.ask_some hE
    have hE' : m.askErr k (tNot 0) [] = 0 := hE
    have hV : askV N m k (tNot 0) [] = ptrV (N.ub k) := by unfold askV; rw [if_pos hE']
    rw [hV, hE'] at ha
    obtain ⟨q1, q2, q3, q4, q5, q6, q7⟩ := h.ok.pr k p hp
    have hst : p.st ≠ 0 := by simpa [tNot] using ht
    have q6 := q6 hst
    have HU : Hid (∀ w3, Below (w.alloc (.cells #[.int .i64 0] 141)).heap.size (w.alloc (.cells #[.int .i64 0] 141)) w3 → w3.cell? ⟨N.ub k, 3, none⟩ = some (.int .i64 (p.st : Nat)) ∧ w3.cell? ⟨N.ub k, 4, none⟩ = some (.int .i64 (p.cell : Nat)) ∧ Below w.heap.size w w3) := hid fun w3 hb3 => by
      have hb := bthen hb2 hb3
      have hA := (h.kept (Kept.of_below (S := []) hb) (by simp)).ur k p hp
      exact ⟨hA.cell 3, hA.cell 4, hb⟩
    by_cases h1 : p.st = 1
    · have HP : Hid (∀ w3, Below w.heap.size w w3 → PagePost w m k (.returned (.tuple #[.slice (some ⟨w3.heap.size, 0, none⟩) 1 1, .int .i64 0])) (w3.alloc (.cells #[.int .i64 (p.cell : Nat)] 3))) := hid fun w3 hb3 => by
        unfold PagePost
        rw [page_one hp h1, hE]
        refine ⟨_, 1, rfl, ?_, hb3.alloc hb3.size _⟩
        exact ⟨rfl, .inr ⟨w3.heap.size, 1, #[.int .i64 (p.cell : Nat)], rfl, hb3.size, heap_alloc_new w3 _, Nat.le_refl _, by unfold maxLen; omega, rfl, rfl⟩⟩
      rw [h1] at HU
      generalize PagePost w m k = P at *
      generalize N.ub k = ub at *
      generalize p.cell = pc at *
      clear h h2 hr hc0 hE hE' hp hcs ht hV h1 hst
      unfold ptrV AskV at *
      go_enter Try.func28, Try.ntmps28
      go_wp2_with (first
        | (go_at_call 78; refine hi.mono ?_; rintro e w1 ⟨rfl, rfl⟩)
        | (go_at_call 77; refine ha.mono ?_; rintro e w3 ⟨rfl, hb3⟩; obtain ⟨u3, u4, hb4⟩ := HU.out w3 hb3))
      exact HP.out w3 hb4
    · have h2' : p.st = 2 := by omega
      have HA : Hid (∀ w3, Below w.heap.size w w3 → Calls Try.prog 79 #[.int .i64 (p.cell : Int)] w3 fun e w' => ∃ v, e = .returned v ∧ PagePost w m k (.returned (.tuple #[v, .int .i64 0])) w') := hid fun w3 hb3 => by
        refine (carea_any p.cell w3 q6 q5).mono ?_
        rintro e w' ⟨a, cc, rfl, ho, hb⟩
        refine ⟨_, rfl, ?_⟩
        unfold PagePost
        rw [page_area hp h2', hE]
        exact ⟨a, cc, rfl, OwnI.mono ho hb3.size, bthen hb3 hb⟩
      rw [h2'] at HU
      generalize PagePost w m k = P at *
      generalize N.ub k = ub at *
      generalize p.cell = pc at *
      clear h h2 hr hc0 hE hE' hp hcs ht hV h1 hst h2'
      unfold ptrV AskV at *
      go_enter Try.func28, Try.ntmps28
      go_wp2_with (first
        | (go_at_call 78; refine hi.mono ?_; rintro e w1 ⟨rfl, rfl⟩)
        | (go_at_call 77; refine ha.mono ?_; rintro e w3 ⟨rfl, hb3⟩; obtain ⟨u3, u4, hb4⟩ := HU.out w3 hb3)
        | (go_at_call 79; refine (HA.out w3 hb4).mono ?_; rintro e w5 ⟨v5, rfl, hP⟩))
      exact hP
  · have hE' : ¬ m.askErr k (tNot 0) [] = 0 := hE
    have hV : askV N m k (tNot 0) [] = .pointer none := by unfold askV; rw [if_neg hE']
    rw [hV] at ha
    have HF : Hid (∀ w3, Below (w.alloc (.cells #[.int .i64 0] 141)).heap.size (w.alloc (.cells #[.int .i64 0] 141)) w3 → PagePost w m k (.returned (.tuple #[.slice none 0 0, .int .i64 (m.askErr k (tNot 0) [])])) w3) := hid fun w3 hb3 => by
      unfold PagePost
      rw [page_bad hE]
      exact ⟨none, 0, rfl, OwnI.nil _ _, bthen hb2 hb3⟩
    generalize PagePost w m k = P at *
    generalize m.askErr k (tNot 0) [] = E at *
    clear h h2 hr hc0 hV hE
    unfold ptrV AskV at *
    go_enter Try.func28, Try.ntmps28
    go_wp2_with (first
      | (go_at_call 78; refine hi.mono ?_; rintro e w1 ⟨rfl, rfl⟩)
      | (go_at_call 77; refine ha.mono ?_; rintro e w3 ⟨rfl, hb3⟩))
    exact HF.out w3 hb3
end Go.Proofs.Ytcnkcbipkchoiag
namespace Go.Proofs.Ytcnkcbipkchoiag
open Go.ChangeShapes Go.WideShapes Go.ChangeAt Go.RowKit
theorem take_ext {xs ys : List Int} {k : Nat} (hl : ys.length = xs.length) (hk : k < xs.length) (h : xs.take k = ys.take k) (e : xs[k]?.getD 0 = ys[k]?.getD 0) : xs.take (k + 1) = ys.take (k + 1) := by
  rw [List.take_add_one, List.take_add_one, h]
  have h1 : xs[k]? = some xs[k] := List.getElem?_eq_getElem hk
  have h2 : ys[k]? = some (ys[k]'(by omega)) := List.getElem?_eq_getElem (by omega)
  rw [h1, h2] at e
  simp at e
  rw [h1, h2, e]
theorem take_ext' {xs ys : List Int} {k : Nat} (hl : ys.length = xs.length) (hk : k < xs.length) (h : xs.take k = ys.take k) (e : (xs[k] != ys[k]?.getD 0) = false) : xs.take (k + 1) = ys.take (k + 1) := by
  refine take_ext hl hk h ?_
  rw [List.getElem?_eq_getElem hk]
  simpa using e
theorem dec_ne {xs ys : List Int} {k : Nat} (hk : k < xs.length) (e : (xs[k] != ys[k]?.getD 0) = true) : Ending.returned (.bool false) = .returned (.bool (decide (xs = ys))) := by
  have : ¬ xs = ys := by
    intro h
    subst h
    simp [List.getElem?_eq_getElem hk] at e
  simp [this]
theorem dec_eq {xs ys : List Int} {k : Nat} (hl : ys.length = xs.length) (hk : xs.length ≤ k) (h : xs.take k = ys.take k) : Ending.returned (.bool true) = .returned (.bool (decide (xs = ys))) := by
  rw [List.take_of_length_le hk, List.take_of_length_le (by omega)] at h
  simp [h]
end Go.Proofs.Ytcnkcbipkchoiag
namespace Go.Proofs.Ytcnkcbipkchoiag
open Go.ChangeShapes Go.WideShapes Go.ChangeAt Go.RowKit
set_option maxHeartbeats 400000 in
theorem same_ints (xs ys : List Int) (a b : Option Addr) (ca cb : Nat) (w : World) (ha : Rd .i64 w a xs) (hb : Rd .i64 w b ys) (hx : xs.length ≤ maxLen) (hy : ys.length ≤ maxLen) :
    Calls Try.prog 30 #[.slice a xs.length ca, .slice b ys.length cb] w fun e w' => e = .returned (.bool (decide (xs = ys))) ∧ Below w.heap.size w w' := by
  unfold maxLen at hx hy
  by_cases hl : ys.length = xs.length
  · have hne : (((xs.length : Nat) : Int) != ((ys.length : Nat) : Int)) = false := by rw [hl]; simp
    rw [hl] at hne ⊢
    clear hy
    have HL : Hid (ys.length = xs.length) := hl
    clear hl
    go_enter Try.func30, Try.ntmps30
    go_wp2
    go_loopw [5] (fun i wr => ∃ k : Nat, k ≤ xs.length ∧ i = .int .i64 k ∧ Hid (xs.take k = ys.take k) ∧ Below w.heap.size w wr) (fun i _ => xs.length - (intOf i).toNat)
    case atStart => exact ⟨0, Nat.zero_le _, rfl, rfl, Below.refl _ _⟩
    case round =>
      obtain ⟨k, hk, rfl, htk, hbel⟩ := hrel
      by_cases hlt : k < xs.length
      · obtain ⟨b1, o1, rfl, hc1⟩ := (ha.below hbel).at hlt
        obtain ⟨b2, o2, rfl, hc2⟩ := (hb.below hbel).at (i := k) (by rw [HL.out]; exact hlt)
        have g1 := hc1 k hlt
        have g2 := hc2 k (by rw [HL.out]; exact hlt)
        clear hc1 hc2
        go_wp2_with fail
        go_quiet (fail)
        go_wp2
        · go_ret
          exact ⟨dec_ne hlt ‹_›, below_drewN hbel _⟩
        · go_roundw
          case rel => exact ⟨k + 1, by omega, by go_num, take_ext' HL.out hlt htk.out ‹_›, below_drewN hbel _⟩
          case measure => simp [intOf]; omega
      · go_wp2
        go_ret
        exact ⟨dec_eq HL.out (by omega) htk.out, hbel⟩
  · have hne : (((xs.length : Nat) : Int) != ((ys.length : Nat) : Int)) = true := by simp; omega
    have hd : decide (xs = ys) = false := by simp; intro h; subst h; exact hl rfl
    rw [hd]
    clear hl
    go_enter Try.func30, Try.ntmps30
    go_wp2
    go_ret
    exact ⟨rfl, Below.refl _ _⟩
end Go.Proofs.Ytcnkcbipkchoiag
namespace Go.Proofs.Ytcnkcbipkchoiag
open Go.ChangeShapes Go.WideShapes Go.ChangeAt Go.RowKit
/-- A list of one's own in its block, whatever the spare room holds. -/
theorem own_block {w : World} {B : Nat} {e : TypeId} {v : Value} {n : Nat} {xs : List Value} (h : w.ownsRow B e 1 v n xs) : v = .slice none 0 0 ∨ ∃ g cap cur, v = .slice (some ⟨g, 0, none⟩) n cap ∧ B ≤ g ∧ w.heap[g]? = some (.cells cur e (0, 0)) ∧ n ≤ cap ∧ cap ≤ maxLen ∧ cur.size = cap := by
  rcases h.2 with ⟨e1, _⟩ | ⟨g, cap, cur, h1, h2, h3, h4, h5, h6, _⟩
  · exact .inl e1
  · exact .inr ⟨g, cap, cur, h1, h2, h3, h4, h5, by omega⟩
theorem own_of_block {w : World} {B : Nat} {e : TypeId} {g n cap : Nat} {cur : Array Value} (hB : B ≤ g) (h : w.heap[g]? = some (.cells cur e (0, 0))) (hn : n ≤ cap) (hm : cap ≤ maxLen) (hs : cur.size = cap) : w.ownsRow B e 1 (.slice (some ⟨g, 0, none⟩) n cap) n (cur.toList.take n) :=
  ⟨by simp; omega, .inr ⟨g, cap, cur, rfl, hB, h, hn, hm, by omega, by rw [Nat.mul_one]⟩⟩
theorem three_new (k : IntKind) (m : Int) (T : TypeId) (w : World) : ∀ j u, ([.int k m, .int k m, .int k m] : List Value)[j]? = some u → (w.alloc (.cells #[.int k m, .int k m, .int k m] T)).cell? ((⟨w.heap.size, 0, none⟩ : Addr).add j) = some u := fun j u hu => by
  rw [Addr.add_lit, cell_of_row _ _ _ _ _ _ (heap_alloc_new w _), Nat.zero_add]
  simpa using hu
end Go.Proofs.Ytcnkcbipkchoiag
namespace Go.Proofs.Ytcnkcbipkchoiag
open Go.ChangeShapes Go.WideShapes Go.ChangeAt Go.RowKit
set_option maxHeartbeats 1000000 in
theorem spoiltKT (m : ByteArray) (v : Value) (n : Nat) (ys : List Value) (B : Nat) (S : List Nat) (w : World) (hown : w.ownsRow B 9 1 v n ys) (hB : B ≤ w.heap.size) (hS : ∀ k, v.ownBlock = some k → k ∈ S) (hz : n ≤ 8796093021952) :
    Calls Try.prog 41 #[v, .string m] w fun e w' => e = .returned (.tuple #[]) ∧ Kept S w w' := by
  obtain ⟨i0, hi, hz0, hz1, hz2⟩ := info_parts Try.infoTx
  rcases own_block hown with rfl | ⟨g, cap, cur, rfl, hg, hblk, hnc, hcm, hcs⟩
  · have hown' := World.ownsRow.alloc (World.ownsRow_nil w B 9 1) (.cells #[.string m, .string m, .string m] 9)
    have hc3 : ∀ j u, ([.string m, .string m, .string m] : List Value)[j]? = some u → (w.alloc (.cells #[.string m, .string m, .string m] 9)).cell? ((⟨w.heap.size, 0, none⟩ : Addr).add j) = some u := fun j u hu => by
      rw [Addr.add_lit, cell_of_row _ _ _ _ _ _ (heap_alloc_new w _), Nat.zero_add]
      simpa using hu
    have hb1 := (Kept.refl S w).alloc (.cells #[.string m, .string m, .string m] 9)
    have HC3 := hid hc3
    clear hown hc3
    go_enter Try.func41, Try.ntmps41
    go_wp2
    go_loopw [12] (fun q wr => q = .int .i64 0 ∧ wr = w) (fun _ _ => 0)
    case atStart => exact ⟨rfl, rfl⟩
    case round =>
      obtain ⟨rfl, rfl⟩ := hrel
      go_wp2_with (first
        | (at_builtin; refine wpList_append_own _ rfl _ _ 32 rfl B 9 i0 (.string { data := #[] }) 1 16 Try.underlying32 hi hz0 hz1 hz2 rfl (by decide) (.slice none 0 0) 0 [] rfl hown' ⟨wr.heap.size, 0, none⟩ 3 3 [.string m, .string m, .string m] rfl rfl HC3.out (fun u hu => by simp at hu; subst hu; rfl) (by unfold maxLen; omega) (by omega) (by simp; omega) ?_))
      intro v' w' _ hg' _
      have hb2 := hb1.trans (keptNoneD hg')
      go_wp2
      go_end0
      exact ⟨rfl, hb2⟩
  · have hcm' : cap ≤ 9223372036854775807 := by unfold maxLen at hcm; omega
    have hgS : g ∈ S := hS g rfl
    clear hown
    go_enter Try.func41, Try.ntmps41
    go_wp2
    go_loopw [12] (fun q wr => ∃ (i : Nat) (cur' : Array Value), i ≤ cap ∧ q = .int .i64 i ∧ wr.heap[g]? = some (.cells cur' 9 (0, 0)) ∧ Hid (cur'.size = cap) ∧ Kept [g] w wr) (fun q _ => cap - (intOf q).toNat)
    case atStart => exact ⟨0, cur, Nat.zero_le _, rfl, hblk, hcs, Kept.refl _ _⟩
    case round =>
      obtain ⟨i, cur', hi', rfl, hb', HCS, hkept⟩ := hrel
      by_cases hlt : i < cap
      · have hc : wr.cell? ⟨g, i, none⟩ = some (cur'[i]'(by rw [HCS.out]; exact hlt)) := by
          rw [cell_of_row _ _ _ _ _ _ hb']
          simp [HCS.out, hlt]
        have hf := frozen_of_row wr g i _ _ hb'
        generalize cur'[i]'(by rw [HCS.out]; exact hlt) = x at hc
        have hset := heap_setCell_same wr g i _ _ (.string m) hb'
        have hkept' := hkept.setCell (p := ⟨g, i, none⟩) (by simp) (.string m)
        clear hb' hkept
        go_wp2
        go_roundw
        case rel => exact ⟨i + 1, _, by omega, by go_num, hset, by unfold Hid; simp [HCS.out], hkept'⟩
        case measure => simp [intOf]; omega
      · have hown := own_of_block (n := n) hg hb' hnc hcm HCS.out
        have hown' := World.ownsRow.alloc hown (.cells #[.string m, .string m, .string m] 9)
        have hbr : Kept S w wr := hkept.wider (by simpa using hgS)
        have hb1 := hbr.alloc (.cells #[.string m, .string m, .string m] 9)
        have HC3 := hid (marks_newD [.string m, .string m, .string m] 9 wr)
        have hBr : B ≤ wr.heap.size := Nat.le_trans hB hbr.size
        obtain ⟨xs, exs⟩ : ∃ xs, xs = cur'.toList.take n := ⟨_, rfl⟩
        rw [← exs] at hown'
        clear exs hown hb' hkept hi'
        go_wp2_with (first
          | (at_builtin; refine wpList_append_own _ rfl _ _ 32 rfl B 9 i0 (.string { data := #[] }) 1 16 Try.underlying32 hi hz0 hz1 hz2 rfl (by decide) (.slice (some ⟨g, 0, none⟩) n cap) n xs rfl hown' ⟨wr.heap.size, 0, none⟩ 3 3 [.string m, .string m, .string m] rfl rfl HC3.out (fun u hu => by simp at hu; subst hu; rfl) (by unfold maxLen; omega) (by omega) (by simp; omega) ?_))
        intro v' w' _ hg' _
        have hb2 := hb1.trans ((kept_grownD hg').wider (by simpa using hgS))
        go_wp2
        go_end0
        exact ⟨rfl, hb2⟩
end Go.Proofs.Ytcnkcbipkchoiag
