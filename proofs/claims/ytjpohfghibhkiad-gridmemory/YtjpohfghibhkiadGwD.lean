import Derived.Test.YtjpohfghibhkiadGwC
import Derived.Laws.ResultCell
import Derived.Laws.Tables
import Derived.Laws.CopyOwn
namespace Go.Proofs.Ytjpohfghibhkiad
open Go.ChangeShapes Go.WideShapes Go.ChangeAt Go.RowKit

/-! THE PROGRAM'S ownersOf. -/

def cntF (ss : List Sh) (k j : Nat) : Nat := (ownTo ss ((12 * (j % 12) : Nat) : Int) ((j / 12 : Nat) : Int) k).2
def ownF (ss : List Sh) (k j : Nat) : Int := (ownTo ss ((12 * (j % 12) : Nat) : Int) ((j / 12 : Nat) : Int) k).1
theorem own_zero {B : Int} {ss : List Sh} {tone t : Int} : ∀ k, (∀ i, i < k → shOk B (shAt ss i) = true) → ((ownTo ss tone t k).1 = 0 ↔ (ownTo ss tone t k).2 = 0)
  | 0, _ => by simp [ownTo]
  | k + 1, h => by
    have ih := own_zero (tone := tone) (t := t) k (fun i hi => h i (by omega))
    rw [ownTo]
    by_cases e : hasM (shAt ss k) tone t = true
    · rw [if_pos e]
      have := of_decide_eq_true (h k (by omega))
      simp
      omega
    · rw [if_neg e]
      exact ih
theorem cnt_mono (ss : List Sh) (tone t : Int) (k : Nat) : ∀ m, (ownTo ss tone t k).2 ≤ (ownTo ss tone t (k + m)).2
  | 0 => Nat.le_refl _
  | m + 1 => by
    have ih := cnt_mono ss tone t k m
    rw [← Nat.add_assoc, ownTo]
    split
    · simp; omega
    · exact ih
/-- A share as the program counts it. -/
theorem has_rect {B : Int} {s : Sh} (h : shOk B s = true) (j : Nat) (hj : j < 168) : (hasM s ((12 * (j % 12) : Nat) : Int) ((j / 12 : Nat) : Int) = true) ↔ (s.bg.toNat ≤ j / 12 ∧ j / 12 < s.en.toNat ∧ s.fr.toNat ≤ j % 12 ∧ j % 12 < s.fr.toNat + s.cnt.toNat) := by
  have := of_decide_eq_true h
  unfold hasM
  rw [decide_eq_true_eq]
  omega
theorem own_step {B : Int} {ss : List Sh} {k : Nat} (h : shOk B (shAt ss k) = true) : tabF (gvF (ownF ss k) (shAt ss k).who (shAt ss k).fr.toNat ((shAt ss k).fr.toNat + (shAt ss k).cnt.toNat) (shAt ss k).bg.toNat (shAt ss k).en.toNat (shAt ss k).en.toNat (shAt ss k).fr.toNat) = tabF (ownF ss (k + 1)) := by
  refine tabF_ext fun j hj => ?_
  have hr := has_rect h j hj
  unfold gvF ownF
  rw [ownTo]
  by_cases e : hasM (shAt ss k) ((12 * (j % 12) : Nat) : Int) ((j / 12 : Nat) : Int) = true
  · rw [if_pos e, if_pos (by have := hr.1 e; omega)]
  · rw [if_neg e, if_neg (fun h' => e (hr.2 (by omega)))]
theorem cnt_step {B : Int} {ss : List Sh} {k : Nat} (hok : ∀ i, i < k + 1 → shOk B (shAt ss i) = true) (hc : ∀ j, j < 168 → cntF ss k j ≤ 1) (hf : FreeTo (ownF ss k) (shAt ss k).fr.toNat ((shAt ss k).fr.toNat + (shAt ss k).cnt.toNat) (shAt ss k).bg.toNat (shAt ss k).en.toNat (shAt ss k).en.toNat (shAt ss k).fr.toNat) : ∀ j, j < 168 → cntF ss (k + 1) j ≤ 1 := by
  intro j hj
  have hr := has_rect (hok k (by omega)) j hj
  unfold cntF
  rw [ownTo]
  by_cases e : hasM (shAt ss k) ((12 * (j % 12) : Nat) : Int) ((j / 12 : Nat) : Int) = true
  · rw [if_pos e]
    have h1 := hf j hj (hr.1 e) (by have := hr.1 e; omega)
    have h2 := (own_zero k (fun i hi => hok i (by omega))).1 h1
    simp
    exact h2
  · rw [if_neg e]
    exact hc j hj
theorem clash_give {B : Int} {ss : List Sh} {k : Nat} (hk : k < ss.length) (hok : ∀ i, i < k + 1 → shOk B (shAt ss i) = true) {t b : Nat} (h1 : (shAt ss k).bg.toNat ≤ t) (h2 : t < (shAt ss k).en.toNat) (h3 : (shAt ss k).fr.toNat ≤ b) (h4 : b < (shAt ss k).fr.toNat + (shAt ss k).cnt.toNat) (hB : B ≤ 12) (hne : ownF ss k (t * 12 + b) ≠ 0) : clashFree B.toNat ss = false := by
  have ho := of_decide_eq_true (hok k (by omega))
  have e1 : (t * 12 + b) % 12 = b := by omega
  have e2 : (t * 12 + b) / 12 = t := by omega
  have hr := (has_rect (hok k (by omega)) (t * 12 + b) (by omega)).2 (by rw [e1, e2]; exact ⟨h1, h2, h3, h4⟩)
  unfold ownF at hne
  rw [e1, e2] at hr hne
  refine clash_at (b := b) (t := t) (by omega) (by omega) ?_
  have hz : (ownTo ss ((12 * b : Nat) : Int) (t : Int) k).2 ≠ 0 := fun h => hne ((own_zero k (fun i hi => hok i (by omega))).2 h)
  have hm := cnt_mono ss ((12 * b : Nat) : Int) (t : Int) (k + 1) (ss.length - (k + 1))
  rw [show k + 1 + (ss.length - (k + 1)) = ss.length by omega] at hm
  have hs : (ownTo ss ((12 * b : Nat) : Int) (t : Int) (k + 1)).2 = (ownTo ss ((12 * b : Nat) : Int) (t : Int) k).2 + 1 := by rw [ownTo, if_pos hr]
  show 1 < (ownTo ss ((12 * b : Nat) : Int) (t : Int) ss.length).2
  omega
theorem clash_cnt {B : Nat} {ss : List Sh} (hB : B ≤ 12) (hc : ∀ j, j < 168 → cntF ss ss.length j ≤ 1) : clashFree B ss = true := clash_none fun b hb t ht => by
  have := hc (t * 12 + b) (by omega)
  unfold cntF at this
  rw [show (t * 12 + b) % 12 = b by omega, show (t * 12 + b) / 12 = t by omega] at this
  exact this

theorem results_row_tmp {P : Program} {fn : Func} {p u : Tmp} {ty : TypeId} (h : fn.results = #[.cell p ty, .tmp u]) (tmps : Array Value) (w : World) (g : Nat) (t : TypeId) (cs : Array Value) (fr : Nat × Nat) (d : TypeDesc)
    (hp : tmps.getD p undef = .pointer (some ⟨g, 0, none⟩)) (hg : w.heap[g]? = some (.cells cs t fr))
    (hu : P.underlying ty = some d) (hd : (match d with | .struct _ | .array _ _ => true | _ => false) = true) (hi : (P.info? ty).map (·.size) = some cs.size) :
    (results fn tmps).run P w = .ok (.tuple #[.agg cs, tmps.getD u undef]) w := by
  rw [results_cell_tmp h, hp]
  simp [asAddr, run_loadVar_row w g t ty cs fr d hg hu hd hi]

def tabV (f : Nat → Int) : Array Value := ((tabF f).map (Value.int .i64)).toArray
theorem tabV_zero : tabV (fun _ => 0) = Array.replicate 168 (.int .i64 0) := by kernel_rfl

set_option maxRecDepth 100000 in
set_option maxHeartbeats 4000000 in
theorem ownersOf_any (B : Int) (ss : List Sh) (n c : Nat) (a : Option Addr) (w : World) (hS : Shs w a ss) (hn : ss.length = n) (hz : n ≤ 9223372036854775807) (hF : ∀ i, i < n → (shAt ss i).fr ≤ 9223372036854775807) :
    Calls Try.prog 21 #[.agg #[.int .i64 B, .slice a n c]] w fun e w' => ∃ f, e = .returned (.tuple #[.agg (tabV f), .int .i64 (gridErrM B ss)]) ∧ Below w.heap.size w w' ∧ (gridErrM B ss = 0 → tabF f = tabF (ownF ss ss.length)) := by
  obtain ⟨w3, e3⟩ : ∃ w3, w3 = ((w.alloc (.cells #[.int .i64 B, .slice a n c] 24)).alloc (.cells Try.zeroCells61 61)).alloc (.cells Try.zeroCells61 61) := ⟨_, rfl⟩
  have hzc : Try.zeroCells61 = tabV (fun _ => 0) := by kernel_rfl
  have hsz : (w.alloc (.cells #[.int .i64 B, .slice a n c] 24)).heap.size = w.heap.size + 1 := by simp
  have hsz2 : ((w.alloc (.cells #[.int .i64 B, .slice a n c] 24)).alloc (.cells Try.zeroCells61 61)).heap.size = w.heap.size + 1 + 1 := by simp
  have hb3 : Below w.heap.size w w3 := by
    rw [e3]
    exact (((Below.refl _ w).alloc (Nat.le_refl _) _).alloc (by rw [hsz]; omega) _).alloc (by rw [hsz2]; omega) _
  have hR : ArrAt .i64 61 w3 (w.heap.size + 1) (tabF fun _ => 0) := by
    rw [e3, hzc]
    have := arr_new .i64 61 (w.alloc (.cells #[.int .i64 B, .slice a n c] 24)) (tabF fun _ => 0)
    rw [hsz] at this
    exact this.alloc _
  have hO : ArrAt .i64 61 w3 (w.heap.size + 1 + 1) (tabF fun _ => 0) := by
    rw [e3, hzc]
    have := arr_new .i64 61 ((w.alloc (.cells #[.int .i64 B, .slice a n c] 24)).alloc (.cells (tabV fun _ => 0) 61)) (tabF fun _ => 0)
    rw [show ((w.alloc (.cells #[.int .i64 B, .slice a n c] 24)).alloc (.cells (tabV fun _ => 0) 61)).heap.size = w.heap.size + 1 + 1 by simp] at this
    exact this
  have q1 : w3.cell? ⟨w.heap.size, 1, none⟩ = some (.slice a n c) := by
    rw [e3]
    have h1 : (w.alloc (.cells #[.int .i64 B, .slice a n c] 24)).cell? ⟨w.heap.size, 1, none⟩ = some (.slice a n c) := by rw [cell_of_row _ _ _ _ _ _ (heap_alloc_new w _)]; rfl
    have h2 := (((Below.refl _ (w.alloc (.cells #[.int .i64 B, .slice a n c] 24))).alloc (Nat.le_refl _) (.cells Try.zeroCells61 61)).cell (World.block_lt_of_cell? _ _ h1)).trans h1
    exact (((Below.refl _ ((w.alloc (.cells #[.int .i64 B, .slice a n c] 24)).alloc (.cells Try.zeroCells61 61))).alloc (Nat.le_refl _) (.cells Try.zeroCells61 61)).cell (World.block_lt_of_cell? _ _ h2)).trans h2
  have hs3 : w3.heap.size = w.heap.size + 3 := by rw [e3]; simp
  have hCF := fun (wz : World) (hbz : Below w.heap.size w wz) => checkForm_any B ss n c a wz (hS.below hbz) hn hz hF
  have HGE := hid (show gridErrM B ss = if decide (1 ≤ B ∧ B ≤ 12) && decide (ss.length ≤ 100) && ss.all (shOk B) then (if clashFree B.toNat ss then 0 else 5) else 1 from rfl)
  obtain ⟨G, eG⟩ : ∃ G, G = gridErrM B ss := ⟨_, rfl⟩
  rw [← eG] at HGE
  rw [← eG]
  clear eG
  obtain ⟨d, ed⟩ : ∃ d, d = (decide (1 ≤ B ∧ B ≤ 12) && decide (ss.length ≤ 100) && ss.all (shOk B)) := ⟨_, rfl⟩
  simp only [← ed] at hCF HGE
  have HD := hid ed
  have HN := hid hn
  have HF := hid hF
  clear ed hn hF hz hsz hsz2 hzc
  go_enter Try.func21, Try.ntmps21
  go_wp2_with fail
  rw [← e3]
  clear e3
  obtain ⟨gG, eG⟩ : ∃ gG, gG = w.heap.size := ⟨_, rfl⟩
  obtain ⟨gR, eR⟩ : ∃ gR, gR = w.heap.size + 1 := ⟨_, rfl⟩
  obtain ⟨gO, eO⟩ : ∃ gO, gO = w.heap.size + 1 + 1 := ⟨_, rfl⟩
  rw [← eO, ← eR, ← eG]
  rw [← eO] at hO
  rw [← eR] at hR
  rw [← eG] at q1
  have hlR : w.heap.size ≤ gR ∧ w.heap.size ≤ gO ∧ gR ≠ gO ∧ gG ≠ gO ∧ gG ≠ gR ∧ w.heap.size ≤ gG ∧ gR < w3.heap.size ∧ gO < w3.heap.size := by omega
  clear eG eR eO hs3
  have HL := hid hlR
  clear hlR
  refine (hCF w3 hb3).mono ?_
  rintro e w4 ⟨rfl, hw4⟩
  have hb4 : Below w.heap.size w w4 := hb3.trans (hw4.mono hb3.size)
  have hR4 := hR.below hw4 HL.out.2.2.2.2.2.2.1
  have hO4 := hO.below hw4 HL.out.2.2.2.2.2.2.2
  have r1 := (hw4.cell (World.block_lt_of_cell? w3 _ q1)).trans q1
  clear hCF hR hO q1 hw4 hb3
  cases d with
  | false =>
    have HV := hid (show (1 : Int) = G from HGE.out.symm)
    go_wp2_with (refine wpList_store_row rfl 61 (.tmp 2) (.tmp 13) rfl gR 61 _ _ rfl rfl hR4 (by kernel_rfl) (by kernel_rfl) (by kernel_rfl) ?_)
    refine bodyPost_ret (results_row_tmp (p := 2) (u := 3) (ty := 61) (by kernel_rfl) _ _ gR 61 _ (0, 0) _ rfl (setRow_heap _ _ _ _ _ _ hR4) Try.underlying61 rfl (by kernel_rfl)) rfl ?_
    refine ⟨fun _ => 0, ?_, below_setRow hb4 HL.out.1 _, fun h => by rw [← HV.out] at h; cases h⟩
    rw [← HV.out]
    rfl
  | true =>
    go_wp2_with fail
    have hG := HD.out
    rw [eq_comm, Bool.and_eq_true, Bool.and_eq_true, decide_eq_true_eq, decide_eq_true_eq] at hG
    obtain ⟨⟨hB12, h100⟩, hall⟩ := hG
    rw [HN.out] at h100
    have HOK := hid (fun i (hi : i < n) => (show shOk B (shAt ss i) = true by
      rw [sh_getD (by rw [HN.out]; exact hi)]
      exact List.all_eq_true.1 hall _ (List.getElem_mem _)))
    have HGE' := hid (show G = if clashFree B.toNat ss then 0 else 5 from HGE.out)
    clear hall HD HGE
    go_loopw [18] (fun q wr => ∃ k : Nat, k ≤ n ∧ q = .int .i64 k ∧ ArrAt .i64 61 wr gO (tabF (ownF ss k)) ∧ Hid (∀ j, j < 168 → cntF ss k j ≤ 1) ∧ Kept [gO] w4 wr) (fun q _ => n - (intOf q).toNat)
    case atStart => exact ⟨0, Nat.zero_le _, rfl, hO4, fun j hj => Nat.zero_le _, Kept.refl _ _⟩
    case round =>
      clear hO4
      obtain ⟨k, hk, rfl, hO, HC, hKr⟩ := hrel
      have hbr : Below w.heap.size w4 wr := hKr.below hb4.size (fun x hx => by simp at hx; rw [hx]; exact HL.out.2.1)
      have hb5 : Below w.heap.size w wr := hb4.trans hbr
      have hRr := hR4.kept hKr (by simpa using HL.out.2.2.1)
      by_cases hlt : k < n
      · have hlt' : k < ss.length := by rw [HN.out]; exact hlt
        obtain ⟨b1, o1, rfl, hc1⟩ := (hS.below hb5).at (i := k) hlt'
        obtain ⟨c0, c1, c2, c3, c4⟩ := hc1 k hlt'
        have hok := HOK.out k hlt
        have hsh := of_decide_eq_true hok
        have HST := hid (own_step hok)
        have HCN := hid (fun hf => cnt_step (B := B) (ss := ss) (k := k) (fun i hi => HOK.out i (by omega)) HC.out hf)
        have HCL := hid (fun t b h1 h2 h3 h4 hne => clash_give (B := B) (ss := ss) (k := k) hlt' (fun i hi => HOK.out i (by omega)) (t := t) (b := b) h1 h2 h3 h4 hB12.2 hne)
        obtain ⟨s, es⟩ : ∃ s, s = shAt ss k := ⟨_, rfl⟩
        rw [← es] at c0 c1 c2 c3 c4 hsh HST HCN HCL
        clear es hc1 hok
        obtain ⟨wh, fr, cn, bg, en⟩ := s
        dsimp only at c0 c1 c2 c3 c4 hsh HST HCN HCL
        obtain ⟨frN, rfl⟩ : ∃ m : Nat, fr = m := ⟨fr.toNat, by omega⟩
        obtain ⟨cnN, rfl⟩ : ∃ m : Nat, cn = m := ⟨cn.toNat, by omega⟩
        obtain ⟨bgN, rfl⟩ : ∃ m : Nat, bg = m := ⟨bg.toNat, by omega⟩
        obtain ⟨enN, rfl⟩ : ∃ m : Nat, en = m := ⟨en.toNat, by omega⟩
        simp only [Int.toNat_natCast] at HST HCN HCL
        have hgv := fun (wz : World) (hz : ArrAt .i64 61 wz gO (tabF (ownF ss k))) => give_any (ownF ss k) wh frN cnN (frN + cnN) bgN enN rfl gO wz hz (by omega) (by omega) (by omega) (by omega)
        have HGV := hid hgv
        have hOa := hO.alloc (.cells #[.int .i64 wh, .int .i64 frN, .int .i64 cnN, .int .i64 bgN, .int .i64 enN] 52)
        have hKa := hKr.alloc (.cells #[.int .i64 wh, .int .i64 frN, .int .i64 cnN, .int .i64 bgN, .int .i64 enN] 52)
        clear hgv hsh hlt'
        go_wp2_with fail
        refine (HGV.out _ hOa).mono ?_
        rintro e w6 ⟨r, rfl, hK6, hcase⟩
        have hK7 := hKa.trans hK6
        have hbr7 : Below w.heap.size w4 w6 := hK7.below hb4.size (fun x hx => by simp at hx; rw [hx]; exact HL.out.2.1)
        have hb7 : Below w.heap.size w w6 := hb4.trans hbr7
        have hR7 := hR4.kept hK7 (by simpa using HL.out.2.2.1)
        clear HGV hOa hKa hK6 hO hKr hbr hb5 hRr c0 c1 c2 c3 c4
        rcases hcase with ⟨rfl, hfree, hA⟩ | ⟨rfl, t, b, h1, h2, h3, h4, hne⟩
        · have HC' := hid (HCN.out hfree)
          rw [HST.out] at hA
          clear HCN HST HCL hfree
          go_wp2_with fail
          go_roundw
          case rel => exact ⟨k + 1, by omega, by go_num, hA, HC'.out, hK7⟩
          case measure => simp [intOf]; omega
        · have HV := hid (show (5 : Int) = G by rw [HGE'.out, HCL.out t b h1 h2 h3 h4 hne]; rfl)
          clear HCN HST HCL h1 h2 h3 h4 hne
          go_wp2_with (refine wpList_store_row rfl 61 (.tmp 2) (.tmp 26) rfl gR 61 _ _ rfl rfl hR7 (by kernel_rfl) (by kernel_rfl) (by kernel_rfl) ?_)
          refine bodyPost_ret (results_row_tmp (p := 2) (u := 3) (ty := 61) (by kernel_rfl) _ _ gR 61 _ (0, 0) _ rfl (setRow_heap _ _ _ _ _ _ hR7) Try.underlying61 rfl (by kernel_rfl)) rfl ?_
          refine ⟨fun _ => 0, ?_, below_setRow hb7 HL.out.1 _, fun h => by rw [← HV.out] at h; cases h⟩
          rw [← HV.out]
          rfl
      · obtain rfl : k = n := by omega
        have HV := hid (show (0 : Int) = G by rw [HGE'.out, clash_cnt (by omega) (by rw [HN.out]; exact HC.out)]; rfl)
        go_wp2_with (first | (refine wpList_load_row rfl 61 (.tmp 4) rfl gO rfl 61 _ (0, 0) _ hO Try.underlying61 rfl (by kernel_rfl) ?_) | (refine wpList_store_row rfl 61 (.tmp 2) (.tmp 29) rfl gR 61 _ _ rfl rfl hRr (by kernel_rfl) (by simp [tabF]) (by kernel_rfl) ?_))
        refine bodyPost_ret (results_row_tmp (p := 2) (u := 3) (ty := 61) (by kernel_rfl) _ _ gR 61 _ (0, 0) _ rfl (setRow_heap _ _ _ _ _ _ hRr) Try.underlying61 rfl (by kernel_rfl)) rfl ?_
        refine ⟨ownF ss k, ?_, below_setRow hb5 HL.out.1 _, fun _ => by rw [HN.out]⟩
        rw [← HV.out]
        rfl
end Go.Proofs.Ytjpohfghibhkiad
