import Derived.Test.YtjpohfghibhkiadGwT
import Derived.Test.YtjpohfghibhkiadGwM
namespace Go.Proofs.Ytjpohfghibhkiad
open Go.ChangeShapes Go.WideShapes Go.ChangeAt Go.RowKit

/-! THE PROGRAM'S Lay. -/

theorem Kept.cellG {S : List Nat} {a b : World} (h : Kept S a b) {p : Addr} {v : Value} (hc : a.cell? p = some v) (hn : p.block ∉ S) : b.cell? p = some v := by
  have hb := h.block p.block (World.block_lt_of_cell? a _ hc) hn
  rw [← hc]
  unfold World.cell?
  rw [hb]
def rowBs (gs : Nat → Nat) : List Nat := (List.range 14).map gs
theorem mem_rowBs {gs : Nat → Nat} {x : Nat} : x ∈ rowBs gs ↔ ∃ t, t < 14 ∧ gs t = x := by simp [rowBs]
theorem RowsO.notin {w : World} {B g N : Nat} {gs : Nat → Nat} {ls : Nat → List (Int × Int)} (h : RowsO w B g N gs ls 14) {b : Nat} {cs : Array Value} {T : TypeId} (hb : w.heap[b]? = some (.cells cs T (0, 0))) (hT : T ≠ 47) : b ∉ rowBs gs := by
  intro hm
  obtain ⟨t, ht, rfl⟩ := mem_rowBs.1 hm
  have h1 := h.row t ht
  unfold PArr at h1
  rw [hb] at h1
  simp at h1
  exact hT h1.2
theorem RowsO.notold {w : World} {B g N : Nat} {gs : Nat → Nat} {ls : Nat → List (Int × Int)} (h : RowsO w B g N gs ls 14) {b : Nat} (hb : b < B) : b ∉ rowBs gs := by
  intro hm
  obtain ⟨t, ht, rfl⟩ := mem_rowBs.1 hm
  have := h.ge t ht
  omega
theorem RowsO.mono {w : World} {B B' g N k : Nat} {gs : Nat → Nat} {ls : Nat → List (Int × Int)} (h : RowsO w B g N gs ls k) (hB : B' ≤ B) : RowsO w B' g N gs ls k :=
  ⟨h.top, h.row, h.len, h.inj, fun t ht => Nat.le_trans hB (h.ge t ht), Nat.le_trans hB h.gt⟩
theorem OwnT.block {T : TypeId} {w : World} {B g n c : Nat} {ps : List (Int × Int)} (h : OwnT T w B (.slice (some ⟨g, 0, none⟩) n c) ps) : ∃ cs, w.heap[g]? = some (.cells cs T (0, 0)) := by
  rcases h.2 with ⟨h', _⟩ | ⟨g', cap, cur, h', _, hg, _⟩
  · simp at h'
  · simp only [Value.slice.injEq, Option.some.injEq, Addr.mk.injEq, and_true] at h'
    obtain ⟨rfl, -, -⟩ := h'
    exact ⟨_, hg⟩
theorem kept_setCells {S : List Nat} {a w : World} (h : Kept S a w) {g : Nat} (hg : g ∈ S) (i : Nat) (u v : Value) : Kept S a (w.setCells g i [u, v]) :=
  (h.setCell (p := ⟨g, i, none⟩) hg u).setCell (p := ⟨g, i + 1, none⟩) hg v

set_option maxRecDepth 100000 in
set_option maxHeartbeats 4000000 in
theorem lay_own (B : Int) (ss : List Sh) (n c : Nat) (a : Option Addr) (ps : List Prt) (ap : Option Addr) (np cp : Nat) (w : World) (hS : Shs w a ss) (hn : ss.length = n) (hz : n ≤ 9223372036854775807) (hF : ∀ i, i < n → (shAt ss i).fr ≤ 9223372036854775807) (hP : PrtsP w ap ps) (hnp : ps.length = np) (hzp : np ≤ 9223372036854775807) (hpz : ∀ i, i < np → (prAt ps i).pts.length ≤ 9223372036854775807) (hpb : ∀ i, i < np → (Lit.int .i64 (prAt ps i).who).wf = true) :
    Calls Try.prog 9 #[.agg #[.int .i64 B, .slice a n c], .slice ap np cp] w fun e w' => ∃ v E, e = .returned (.tuple #[v, .int .i64 E]) ∧ Below w.heap.size w w' ∧ (gridErrM B ss ≠ 0 → E = gridErrM B ss ∧ v = .slice none 0 0) ∧ (gridErrM B ss = 0 → (twiceM ps = true → E = 1 ∧ v = .slice none 0 0) ∧ (twiceM ps = false → (∀ i, i < ps.length → (prAt ps i).pts.length ≠ (placesOfM (gN B) ss (prAt ps i).who).length → E = 3 ∧ v = .slice none 0 0) ∧ ((∀ i, i < ps.length → (prAt ps i).pts.length = (placesOfM (gN B) ss (prAt ps i).who).length) → E = 0 ∧ ∃ g gs, v = .slice (some ⟨g, 0, none⟩) 14 14 ∧ RowsO w' w.heap.size g (gN B) gs (rowL (gN B) (layAt (gN B) ss ps)) 14))) := by
  have hOW := fun (wz : World) (hbz : Below w.heap.size w wz) => ownersOf_any B ss n c a wz (hS.below hbz) hn hz hF
  have hTW := fun (wz : World) (hbz : Below w.heap.size w wz) => isTwice_any ps ap np cp wz (hP.below hbz) hnp hzp hpb
  have HTW := hid hTW
  have HNP := hid hnp
  have HPZ := hid hpz
  have HGD := hid (@griderr_good B ss)
  have hmix : Try.prog.follows .mixedOrders = true := by kernel_rfl
  obtain ⟨G, eG⟩ : ∃ G, G = gridErrM B ss := ⟨_, rfl⟩
  simp only [← eG] at hOW HGD
  rw [← eG]
  clear eG hn hF hz hS hTW hnp hpz hpb
  have q0 : (w.alloc (.cells #[.int .i64 B, .slice a n c] 24)).cell? ⟨w.heap.size, 0, none⟩ = some (.int .i64 B) := by rw [cell_of_row _ _ _ _ _ _ (heap_alloc_new w _)]; rfl
  go_enter Try.func9, Try.ntmps9
  go_wp2_with fail
  have hb1 : Below w.heap.size w (w.alloc (.cells #[.int .i64 B, .slice a n c] 24)) := (Below.refl _ w).alloc (Nat.le_refl _) _
  refine (hOW _ hb1).mono ?_
  rintro e w1 ⟨f, rfl, hw1, hTF⟩
  have hsz : (tabV f).size = 168 := by simp [tabV, tabF]
  have hf := hb1.trans (hw1.mono hb1.size)
  have hb2 : Below w.heap.size w (w1.alloc (.cells Try.zeroCells61 61)) := hf.alloc hf.size _
  have hl2 : w.heap.size ≤ w1.heap.size := hf.size
  have hO2 : (w1.alloc (.cells Try.zeroCells61 61)).heap[w1.heap.size]? = some (.cells Try.zeroCells61 61 (0, 0)) := heap_alloc_new w1 _
  have q1 := (hw1.cell (World.block_lt_of_cell? _ _ q0)).trans q0
  have q2 : ((w1.alloc (.cells Try.zeroCells61 61)).setRow w1.heap.size (tabV f)).cell? ⟨w.heap.size, 0, none⟩ = some (.int .i64 B) := by
    have hlt := World.block_lt_of_cell? _ _ q1
    have hb := below_setRow ((Below.refl w1.heap.size w1).alloc (Nat.le_refl _) (.cells Try.zeroCells61 61)) (Nat.le_refl _) (tabV f)
    exact (hb.cell hlt).trans q1
  have HTF := hid hTF
  clear hOW hw1 hb1 hTF q0 q1
  by_cases hG : G = 0
  · have d1 : (G != 0) = false := by simpa using hG
    have HG := hid hG
    obtain ⟨hB12, -, hok⟩ := HGD.out hG
    have hTF := HTF.out hG
    have hpl := fun (who : Int) (wz : World) (hA : ArrAt .i64 61 wz w1.heap.size (tabF (ownF ss ss.length))) => placesOf_any B who ss w1.heap.size wz hA hB12 hok
    have HPL := hid hpl
    have hgN : B * 12 = ((gN B : Nat) : Int) := by unfold gN; omega
    have hwr : wrap64 (B * 12) = ((gN B : Nat) : Int) := by unfold wrap64; omega
    have hN144 : gN B ≤ 144 := by unfold gN; omega
    have HNB := hid (show gN B = 12 * B.toNat from rfl)
    clear hpl hok hG
    go_wp2_with (refine wpList_store_row rfl 61 (.tmp 6) (.tmp 17) rfl w1.heap.size 61 _ _ rfl rfl hO2 (by kernel_rfl) (by kernel_rfl) (by kernel_rfl) ?_)
    have hA : ArrAt .i64 61 ((w1.alloc (.cells Try.zeroCells61 61)).setRow w1.heap.size (tabV f)) w1.heap.size (tabF (ownF ss ss.length)) := by
      rw [← hTF]
      exact setRow_heap _ _ _ _ _ _ hO2
    have hb3 := below_setRow hb2 hl2 (tabV f)
    generalize (w1.alloc (.cells Try.zeroCells61 61)).setRow w1.heap.size (tabV f) = w3 at *
    generalize w1.heap.size = gO at *
    refine (HTW.out w3 hb3).mono ?_
    rintro e w4 ⟨rfl, hb4⟩
    have hb5 := hb3.trans (hb4.mono hb3.size)
    have hA4 := hA.below hb4 hA.lt
    have q4 := (hb4.cell (World.block_lt_of_cell? _ _ q2)).trans q2
    clear hb4 hA hO2 hTF HTF HTW hb2 q2 hf hb3
    cases hro : twiceM ps with
    | true =>
      have HRO := hid hro
      clear hro
      go_wp2_with fail
      go_ret2
      exact ⟨_, _, rfl, hb5, fun h => absurd HG.out h, fun _ => ⟨fun _ => ⟨rfl, rfl⟩, fun h => absurd (HRO.out.symm.trans h) (by decide)⟩⟩
    | false =>
      have HRO := hid hro
      have HPO3 := hid (fun (w' : World) (hb : Below w.heap.size w w') (k : Nat) (hk : k < ps.length) (hne : (prAt ps k).pts.length ≠ (placesOfM (gN B) ss (prAt ps k).who).length) => (⟨.slice none 0 0, 3, rfl, hb, fun h => absurd HG.out h, fun _ => ⟨fun h => absurd (HRO.out.symm.trans h) (by decide), fun _ => ⟨fun _ _ _ => ⟨rfl, rfl⟩, fun h => absurd (h k hk) hne⟩⟩⟩ : ∃ v' E, Ending.returned (.tuple #[.slice none 0 0, .int .i64 3]) = .returned (.tuple #[v', .int .i64 E]) ∧ Below w.heap.size w w' ∧ (G ≠ 0 → E = G ∧ v' = .slice none 0 0) ∧ (G = 0 → (twiceM ps = true → E = 1 ∧ v' = .slice none 0 0) ∧ (twiceM ps = false → (∀ i, i < ps.length → (prAt ps i).pts.length ≠ (placesOfM (gN B) ss (prAt ps i).who).length → E = 3 ∧ v' = .slice none 0 0) ∧ ((∀ i, i < ps.length → (prAt ps i).pts.length = (placesOfM (gN B) ss (prAt ps i).who).length) → E = 0 ∧ ∃ g gs, v' = .slice (some ⟨g, 0, none⟩) 14 14 ∧ RowsO w' w.heap.size g (gN B) gs (rowL (gN B) (layAt (gN B) ss ps)) 14)))))
      have HPO0 := hid (fun (w' : World) (g : Nat) (gs : Nat → Nat) (hb : Below w.heap.size w w') (hall : ∀ i, i < ps.length → (prAt ps i).pts.length = (placesOfM (gN B) ss (prAt ps i).who).length) (hR : RowsO w' w.heap.size g (gN B) gs (rowL (gN B) (layAt (gN B) ss ps)) 14) => (⟨.slice (some ⟨g, 0, none⟩) 14 14, 0, rfl, hb, fun h => absurd HG.out h, fun _ => ⟨fun h => absurd (HRO.out.symm.trans h) (by decide), fun _ => ⟨fun i hi hne => absurd (hall i hi) hne, fun _ => ⟨rfl, g, gs, rfl, hR⟩⟩⟩⟩ : ∃ v' E, Ending.returned (.tuple #[.slice (some ⟨g, 0, none⟩) 14 14, .int .i64 0]) = .returned (.tuple #[v', .int .i64 E]) ∧ Below w.heap.size w w' ∧ (G ≠ 0 → E = G ∧ v' = .slice none 0 0) ∧ (G = 0 → (twiceM ps = true → E = 1 ∧ v' = .slice none 0 0) ∧ (twiceM ps = false → (∀ i, i < ps.length → (prAt ps i).pts.length ≠ (placesOfM (gN B) ss (prAt ps i).who).length → E = 3 ∧ v' = .slice none 0 0) ∧ ((∀ i, i < ps.length → (prAt ps i).pts.length = (placesOfM (gN B) ss (prAt ps i).who).length) → E = 0 ∧ ∃ g gs, v' = .slice (some ⟨g, 0, none⟩) 14 14 ∧ RowsO w' w.heap.size g (gN B) gs (rowL (gN B) (layAt (gN B) ss ps)) 14)))))
      clear hro
      have hBR := fun (wz : World) => bareRows_any (gN B) wz hN144
      obtain ⟨N, eN⟩ : ∃ N, N = gN B := ⟨_, rfl⟩
      have HEN := hid eN
      rw [← eN] at hgN hwr hN144 HNB
      simp only [← eN] at hBR
      clear eN
      go_wp2_with fail
      refine (hBR w4).mono ?_
      rintro e w5 ⟨g, gs, rfl, hR5, hb6⟩
      have hb7 := hb5.trans (hb6.mono hb5.size)
      have hA5 := hA4.below hb6 hA4.lt
      have hgO : gO < w4.heap.size := hA4.lt
      have hb45 : Below w4.heap.size w4 w5 := hb6
      clear hBR hb6 hA4 q4
      have hR0 : RowsO w5 w4.heap.size g N gs (rowL N (layTo N ss ps 0)) 14 := hR5.ext (fun t _ => bareTo_rowL N ss ps t)
      clear hR5
      go_wp2_with fail
      go_loopw [30] (fun q wr => ∃ k : Nat, k ≤ np ∧ q = .int .i64 k ∧ RowsO wr w4.heap.size g N gs (rowL N (layTo N ss ps k)) 14 ∧ ArrAt .i64 61 wr gO (tabF (ownF ss ss.length)) ∧ Hid (∀ i, i < k → (prAt ps i).pts.length = (placesOfM N ss (prAt ps i).who).length) ∧ Below w4.heap.size w4 wr) (fun q _ => np - (intOf q).toNat)
      case atStart => exact ⟨0, Nat.zero_le _, rfl, hR0, hA5, fun i hi => by omega, hb45⟩
      case round =>
        clear hR0 hA5 hb45 hb7
        obtain ⟨k, hk, rfl, hR, hA, HK, hbr⟩ := hrel
        have hfin := hb5.trans (hbr.mono hb5.size)
        by_cases hlt : k < np
        · have HLT := hid hlt
          have hlt' : k < ps.length := by rw [HNP.out]; exact hlt
          obtain ⟨b1, o1, rfl, hc1⟩ := hP.at hlt'
          obtain ⟨g0w, ra, rc, g1w, hpts⟩ := hc1 k hlt'
          have g0 := (hfin.cell (World.block_lt_of_cell? _ _ g0w)).trans g0w
          have g1 := (hfin.cell (World.block_lt_of_cell? _ _ g1w)).trans g1w
          have hpl := HPL.out (prAt ps k).who
          rw [← HNB.out] at hpl
          have HBAD := hid (fun (w' : World) (hb : Below w.heap.size w w') (hne : (prAt ps k).pts.length ≠ (placesOfM N ss (prAt ps k).who).length) => HPO3.out w' hb k hlt' (by rw [← HEN.out]; exact hne))
          have HNX := hid (fun (h : (prAt ps k).pts.length = (placesOfM N ss (prAt ps k).who).length) => (fun i (hi : i < k + 1) => by
            by_cases e : i = k
            · subst e; exact h
            · exact HK.out i (by omega) : ∀ i, i < k + 1 → (prAt ps i).pts.length = (placesOfM N ss (prAt ps i).who).length))
          have hmz := HPZ.out k hlt
          have HIN := hid (fun i (hi : i < (placesOfM N ss (prAt ps k).who).length) => places_at N ss (prAt ps k).who 14 i hi)
          have HLN := hid (fun (i t0 z0 : Nat) (h1 : z0 < N) (h2 : t0 < 14) (h3 : placeOf ss (prAt ps k).who z0 t0 = true) (h4 : seenAt N ss (prAt ps k).who t0 z0 = i) => layIn_next (N := N) (ss := ss) (ps := ps) (k := k) h1 h2 h3 h4)
          have HLF := hid (fun t z hz ht => layIn_full (N := N) (ss := ss) (ps := ps) (k := k) t z hz ht)
          have hlb : (placesOfM N ss (prAt ps k).who).length ≤ 2016 := by
            have := placesTo_length N ss (prAt ps k).who 14
            have h2 : 14 * N ≤ 14 * 144 := Nat.mul_le_mul_left _ hN144
            unfold placesOfM
            omega
          obtain ⟨wo, ewo⟩ : ∃ wo, wo = (prAt ps k).who := ⟨_, rfl⟩
          obtain ⟨X, eX⟩ : ∃ X, X = (prAt ps k).pts := ⟨_, rfl⟩
          simp only [← ewo, ← eX] at g0 g1 hpts hpl HBAD HNX hmz HIN HLN HLF hlb
          obtain ⟨PL, ePL⟩ : ∃ PL, PL = placesOfM N ss wo := ⟨_, rfl⟩
          have HIN' : Hid (∀ i, i < PL.length → ∃ z t : Nat, z < N ∧ t < 14 ∧ placeOf ss wo z t = true ∧ PL.getD i (0, 0) = ((z : Int), (t : Int)) ∧ seenAt N ss wo t z = i) := by
            unfold Hid
            rw [ePL]
            exact HIN.out
          simp only [← ePL] at hpl HBAD HNX HLF hlb
          obtain ⟨m, em⟩ : ∃ m, m = X.length := ⟨_, rfl⟩
          rw [← em] at g1 HBAD HNX hmz
          have HM := hid em
          clear HIN ewo eX ePL em hc1 hlt' g0w g1w
          have hal := (Below.refl wr.heap.size wr).alloc (Nat.le_refl _) (.cells #[.int .i64 wo, .slice ra m rc] 45)
          have hAl := hA.below hal hA.lt
          have hRl := hR.below hal
          have hbl := hbr.trans (hal.mono hbr.size)
          have hpb : (wr.alloc (.cells #[.int .i64 wo, .slice ra m rc] 45)).heap[wr.heap.size]? = some (.cells #[.int .i64 wo, .slice ra m rc] 45 (0, 0)) := heap_alloc_new wr _
          go_wp2_with fail
          clear g0 g1 hal hA hR hbr hfin
          generalize wr.alloc (.cells #[.int .i64 wo, .slice ra m rc] 45) = wl at *
          generalize wr.heap.size = gA at *
          refine (hpl wl hAl).mono ?_
          rintro e w7 ⟨vq, rfl, hOq, hb7⟩
          obtain ⟨aq, cq, rfl, -, -⟩ := hOq.shape
          have hR7 := hRl.below hb7
          have hA7 := hAl.below hb7 hAl.lt
          have hb47 := hbl.trans (hb7.mono hbl.size)
          have hgA7 := (hb7.block gA (Array.getElem?_eq_some_iff.1 hpb).1).trans hpb
          have cA : w7.cell? ⟨gA, 1, none⟩ = some (.slice ra m rc) := by rw [cell_of_row _ _ _ _ _ _ hgA7]; rfl
          have hfin7 := hb5.trans (hb47.mono hb5.size)
          clear hpl hpb hAl hRl hbl hb7
          obtain ⟨L, eL⟩ : ∃ L, L = PL.length := ⟨_, rfl⟩
          rw [← eL] at hlb hOq HBAD HNX HLF
          rw [← eL]
          have HL := hid eL
          clear eL
          by_cases hml : m = L
          · subst hml
            have HNX' := hid (HNX.out rfl)
            clear HBAD HNX
            have hgAn : gA ∉ rowBs gs := hR7.notin hgA7 (by decide)
            have hgOn : gO ∉ rowBs gs := hR7.notin hA7 (by decide)
            have hR8 : RowsO w7 w4.heap.size g N gs (rowL N (layIn N ss ps k 0)) 14 := hR7.ext (fun t _ => rowL_ext fun z _ => (layIn_zero N ss ps k t z).symm)
            clear hR7 hgA7
            go_wp2_with fail
            go_loopw [45] (fun q wz => ∃ i : Nat, i ≤ m ∧ q = .int .i64 i ∧ RowsO wz w4.heap.size g N gs (rowL N (layIn N ss ps k i)) 14 ∧ Kept (rowBs gs) w7 wz) (fun q _ => m - (intOf q).toNat)
            case atStart => exact ⟨0, Nat.zero_le _, rfl, hR8, Kept.refl _ _⟩
            case round =>
              obtain ⟨i, hi, rfl, hR, hKz⟩ := hrel
              have hbz4 : Below w4.heap.size w7 wr := hKz.below hb47.size (fun x hx => by
                obtain ⟨t, ht, rfl⟩ := mem_rowBs.1 hx
                exact hR8.ge t ht)
              by_cases hlti : i < m
              · have HLI := hid hlti
                have hiP : i < PL.length := by rw [← HL.out]; exact hlti
                obtain ⟨tone, t, htone, ht14, hpo, ep, hse⟩ := HIN'.out i hiP
                obtain ⟨gq, rfl, hq1, hq2⟩ := hOq.cells hiP
                obtain ⟨cs, hgq⟩ := hOq.block
                have hgqn : gq ∉ rowBs gs := hR8.notin hgq (by decide)
                rw [ep] at hq1 hq2
                have gq1 : wr.cell? ⟨gq, i * 2, none⟩ = some (.int .i64 tone) := hKz.cellG hq1 hgqn
                have gq2 : wr.cell? ⟨gq, i * 2 + 1, none⟩ = some (.int .i64 t) := hKz.cellG hq2 hgqn
                have cAr := hKz.cellG cA hgAn
                have hbw : Below w.heap.size w wr := hfin7.trans (hbz4.mono hb5.size)
                have hptr := hpts.below hbw
                have hiX : i < X.length := by rw [← HM.out]; exact hlti
                obtain ⟨gx, ox, rfl, hcx⟩ := hptr.at hiX
                have gx1 := hcx i hiX
                have HSET := hid (HLN.out i t tone htone ht14 hpo hse)
                generalize X.getD i (0, 0) = x at *
                clear hq1 hq2 hgq hgqn hcx hiX hptr hbw hiP ep hse hpo
                have hal := (Below.refl wr.heap.size wr).alloc (Nat.le_refl _) (.cells #[.int .i64 tone, .int .i64 t] 39)
                have p0 : (wr.alloc (.cells #[.int .i64 tone, .int .i64 t] 39)).cell? ⟨wr.heap.size, 0, none⟩ = some (.int .i64 tone) := by rw [cell_of_row _ _ _ _ _ _ (heap_alloc_new wr _)]; rfl
                have p1 : (wr.alloc (.cells #[.int .i64 tone, .int .i64 t] 39)).cell? ⟨wr.heap.size, 1, none⟩ = some (.int .i64 t) := by rw [cell_of_row _ _ _ _ _ _ (heap_alloc_new wr _)]; rfl
                have s1 := (hal.cell (World.block_lt_of_cell? wr _ cAr)).trans cAr
                have s2 := (hal.cell (World.block_lt_of_cell? wr _ gx1.1)).trans gx1.1
                have s3 := (hal.cell (World.block_lt_of_cell? wr _ gx1.2)).trans gx1.2
                have hRl := hR.below hal
                have hKl := hKz.alloc (.cells #[.int .i64 tone, .int .i64 t] 39)
                go_upto_region 16 with fail
                clear hal cAr gx1 hR hKz gq1 gq2 hbz4
                generalize wr.alloc (.cells #[.int .i64 tone, .int .i64 t] 39) = wl2 at *
                generalize wr.heap.size = gp at *
                have hcw : ∀ (wc : World), Below wl2.heap.size wl2 wc → ∀ q v, wl2.cell? q = some v → wc.cell? q = some v := fun wc hbc q v h => (hbc.cell (World.block_lt_of_cell? wl2 _ h)).trans h
                refine wp_mono (region_last (Q := fun e a' w' => e = .normal ∧ a' = { tmps := (_ : List Value).toArray, defers := [] } ∧ ∃ wc, Below wl2.heap.size wl2 wc ∧ w' = wc.setCells (gs t) (tone * 2) [.int .i64 x.1, .int .i64 x.2]) 13 50 (.slice (some ⟨g, 0, none⟩) 14 14) [(51, .pointer (some ⟨gp, 0 + 1, none⟩)), (52, .int .i64 t), (53, .pointer (some ⟨g, t, none⟩)), (54, .slice (some ⟨gs t, 0, none⟩) N N), (55, .pointer (some ⟨gp, 0, none⟩)), (56, .int .i64 tone), (57, .pointer (some ⟨gA, 0 + 1, none⟩)), (58, .slice (some ⟨gx, ox, none⟩) m rc), (59, .int .i64 i), (60, .pointer (some ⟨gx, ox + i * 2, none⟩)), (61, .agg #[.int .i64 x.1, .int .i64 x.2]), (62, .pointer (some ⟨gs t, tone * 2, none⟩))]
                  [[8], [13], [51], [50, 52], [53], [13], [55], [10], [57], [12], [58, 59], [60], [54, 56]] [3, 2, 3, 4, 12, 6, 12, 8, 10, 10, 11, 13, 13] wl2 hmix rfl rfl (show ([50, 51, 52, 53, 54, 55, 56, 57, 58, 59, 60, 61, 62] : List Nat).Nodup by decide) (by kernel_rfl) (by kernel_rfl) (by kernel_rfl) (by kernel_rfl) (by kernel_rfl) (fun i' hi' ac wc hbc hr Q K hK => by
                  have h13 : i' = 0 ∨ i' = 1 ∨ i' = 2 ∨ i' = 3 ∨ i' = 4 ∨ i' = 5 ∨ i' = 6 ∨ i' = 7 ∨ i' = 8 ∨ i' = 9 ∨ i' = 10 ∨ i' = 11 ∨ i' = 12 := by omega
                  rcases h13 with rfl | rfl | rfl | rfl | rfl | rfl | rfl | rfl | rfl | rfl | rfl | rfl | rfl
                  · exact op_value rfl rfl (run_moveQ wc rfl (hr 8 (by decide))) (hK wc (grownG wc))
                  · exact op_value rfl rfl (run_fldPl1 wc rfl (hr 13 (by decide))) (hK wc (grownG wc))
                  · exact op_value rfl rfl (run_loadI wc rfl (hr 51 (by decide)) (hcw wc hbc _ _ p1)) (hK wc (grownG wc))
                  · exact op_value rfl rfl (run_idxRw0 wc rfl (hr 50 (by decide)) (hr 52 (by decide)) ht14) (hK wc (grownG wc))
                  · exact op_value rfl rfl (run_loadRw wc rfl (hr 53 (by decide)) ((hRl.below hbc).cell ht14 ht14)) (hK wc (grownG wc))
                  · exact op_value rfl rfl (run_fldPl0 wc rfl (hr 13 (by decide))) (hK wc (grownG wc))
                  · exact op_value rfl rfl (run_loadI wc rfl (hr 55 (by decide)) (hcw wc hbc _ _ p0)) (hK wc (grownG wc))
                  · exact op_value rfl rfl (run_fldPa1 wc rfl (hr 10 (by decide))) (hK wc (grownG wc))
                  · exact op_value rfl rfl (run_loadRw wc rfl (hr 57 (by decide)) (hcw wc hbc _ _ s1)) (hK wc (grownG wc))
                  · exact op_value rfl rfl (run_moveQ wc rfl (hr 12 (by decide))) (hK wc (grownG wc))
                  · exact op_value rfl rfl (run_idxPt wc rfl (hr 58 (by decide)) (hr 59 (by decide)) hlti) (hK wc (grownG wc))
                  · exact op_value rfl rfl (run_loadPt wc rfl (hr 60 (by decide)) ⟨hcw wc hbc _ _ s2, hcw wc hbc _ _ s3⟩) (hK wc (grownG wc))
                  · exact op_value rfl rfl (run_idxPt0 wc rfl (hr 54 (by decide)) (hr 56 (by decide)) htone) (hK wc (grownG wc)))
                  (fun wc hbc => by
                    have hRc := hRl.below hbc
                    exact op_skip rfl rfl (run_storeQ (p := x) wc rfl (eval_setAll 62 (show ([50, 51, 52, 53, 54, 55, 56, 57, 58, 59, 60, 61, 62] : List Nat).Nodup by decide) (by kernel_rfl)) (eval_setAll 61 (show ([50, 51, 52, 53, 54, 55, 56, 57, 58, 59, 60, 61, 62] : List Nat).Nodup by decide) (by kernel_rfl)) (hRc.row t ht14) (by rw [hRc.len t ht14]; exact htone)) ⟨rfl, rfl, wc, hbc, rfl⟩)) ?_
                rintro e a' w' ⟨rfl, rfl, wc, hbc, rfl⟩
                have hR' := ((hRl.below hbc).set ht14 htone x).ext (ls' := rowL N (layIn N ss ps k (i + 1))) (fun t' ht' => rowL_set (fun t'' z'' hz'' ht'' => HSET.out t'' z'' hz'' ht'') ht')
                have hK' : Kept (rowBs gs) w7 (wc.setCells (gs t) (tone * 2) [.int .i64 x.1, .int .i64 x.2]) := kept_setCells (hKl.trans (Kept.of_below hbc)) (mem_rowBs.2 ⟨t, ht14, rfl⟩) _ _ _
                generalize wc.setCells (gs t) (tone * 2) [.int .i64 x.1, .int .i64 x.2] = wn at *
                clear hcw hbc hRl hKl p0 p1 s1 s2 s3
                dsimp only [setAll, List.set, List.append_nil, List.cons_append, List.nil_append]
                go_wp2_with fail
                go_roundw
                case rel => exact ⟨i + 1, by have := HLI.out; omega, by go_num, hR', hK'⟩
                case measure => have := HLI.out; simp [intOf]; omega
              · obtain rfl : i = m := by omega
                have hR' := hR.ext (ls' := rowL N (layTo N ss ps (k + 1))) (fun t ht => rowL_ext fun z hz => HLF.out t z hz ht)
                have hA' := hA7.kept hKz hgOn
                have hb' := hb47.trans hbz4
                go_wp2_with fail
                go_roundw
                case rel => exact ⟨k + 1, by have := HLT.out; omega, by go_num, hR', hA', HNX'.out, hb'⟩
                case measure => have := HLT.out; simp [intOf]; omega
          · have HV := hid (HBAD.out w7 hfin7 hml)
            have d2 : ((L : Int) != (m : Int)) = true := by simp; omega
            clear HBAD HNX hml
            go_wp2_with fail
            go_ret2
            exact HV.out
        · obtain rfl : k = np := by omega
          have hRf := (hR.ext (ls' := rowL (gN B) (layAt (gN B) ss ps)) (fun t _ => by rw [← HEN.out]; show rowL N (layTo N ss ps k) t = rowL N (layTo N ss ps ps.length) t; rw [HNP.out])).mono hb5.size
          rw [HEN.out] at hRf
          go_wp2_with fail
          go_ret2
          exact HPO0.out wr g gs hfin (by rw [HNP.out, ← HEN.out]; exact HK.out) hRf
  · have d1 : (G != 0) = true := by simpa using hG
    have HG := hid hG
    clear hG
    go_wp2_with (refine wpList_store_row rfl 61 (.tmp 6) (.tmp 17) rfl w1.heap.size 61 _ _ rfl rfl hO2 (by kernel_rfl) (by kernel_rfl) (by kernel_rfl) ?_)
    go_ret2
    exact ⟨_, _, rfl, below_setRow hb2 hl2 _, fun _ => ⟨rfl, rfl⟩, fun h => absurd h HG.out⟩
end Go.Proofs.Ytjpohfghibhkiad
