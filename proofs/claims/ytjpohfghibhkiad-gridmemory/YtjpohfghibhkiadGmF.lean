import Derived.Test.YtjpohfghibhkiadGmE
import Derived.Test.YtjpohfghibhkiadGridW
namespace Go.Proofs.Ytjpohfghibhkiad
open Go.ChangeShapes Go.WideShapes Go.ChangeAt Go.RowKit

/-! WHAT GridMemory KEEPS; Lay AND Take AS IT CALLS THEM. -/

def markS : Sh := ⟨-7, 0, 0, 0, 0⟩
structure MemAt (w wz : World) (B : Int) (a : Option Addr) (n c : Nat) (ss : List Sh) (gG gX gS gT Bp : Nat) (vP : Value) (X : List (Int × Int)) : Prop where
  bel : Below w.heap.size w wz
  gg : wz.heap[gG]? = some (.cells #[.int .i64 B, .slice a n c] 24 (0, 0))
  gx : wz.heap[gX]? = some (.cells #[.int .i64 B, .slice (some ⟨gS, 0, none⟩) n (n + 3)] 24 (0, 0))
  arr : SArr wz gS (ss ++ [markS, markS, markS])
  part : PartB wz gT vP
  own : OwnT 47 wz Bp vP X
theorem MemAt.kept {w wz wz' : World} {B : Int} {a : Option Addr} {n c : Nat} {ss : List Sh} {gG gX gS gT Bp : Nat} {vP : Value} {X : List (Int × Int)} {S : List Nat} (h : MemAt w wz B a n c ss gG gX gS gT Bp vP X) (hk : Kept S wz wz') (hw : ∀ x ∈ S, w.heap.size ≤ x) (h1 : gG ∉ S) (h2 : gX ∉ S) (h3 : gS ∉ S) (h4 : gT ∉ S) (h5 : ∀ x ∈ S, vP.ownBlock ≠ some x) : MemAt w wz' B a n c ss gG gX gS gT Bp vP X := by
  refine ⟨h.bel.trans (hk.below h.bel.size hw), (hk.block gG (Array.getElem?_eq_some_iff.1 h.gg).1 h1).trans h.gg, (hk.block gX (Array.getElem?_eq_some_iff.1 h.gx).1 h2).trans h.gx, (hk.block gS h.arr.lt h3).trans h.arr, (hk.block gT h.part.lt h4).trans h.part, ?_⟩
  refine ⟨h.own.1, ?_⟩
  rcases h.own.2 with h' | ⟨g, cap, cur, e1, e2, e3, e4⟩
  · exact .inl h'
  · have hlt : g < wz.heap.size := (Array.getElem?_eq_some_iff.1 e3).1
    exact .inr ⟨g, cap, cur, e1, e2, (hk.block g hlt (fun hm => h5 g hm (by rw [e1]; rfl))).trans e3, e4⟩
theorem MemAt.below {w wz wz' : World} {B : Int} {a : Option Addr} {n c : Nat} {ss : List Sh} {gG gX gS gT Bp : Nat} {vP : Value} {X : List (Int × Int)} (h : MemAt w wz B a n c ss gG gX gS gT Bp vP X) (hb : Below wz.heap.size wz wz') : MemAt w wz' B a n c ss gG gX gS gT Bp vP X :=
  h.kept (S := []) (Kept.of_below hb) (by simp) (by simp) (by simp) (by simp) (by simp) (by simp)
theorem MemAt.parts {w wz : World} {B : Int} {a : Option Addr} {n c : Nat} {ss : List Sh} {gG gX gS gT Bp : Nat} {vP : Value} {X : List (Int × Int)} (h : MemAt w wz B a n c ss gG gX gS gT Bp vP X) : PrtsP wz (some ⟨gT, 0, none⟩) [⟨1, X⟩] := by
  intro _
  refine ⟨gT, 0, rfl, fun i hi => ?_⟩
  have h0 : i = 0 := by simpa using hi
  subst h0
  obtain ⟨aP, cP, e, -, -⟩ := h.own.shape
  refine ⟨h.part.cell 0, aP, cP, ?_, ?_⟩
  · have h1 := h.part.cell 1
    rw [e] at h1
    exact h1
  · have h2 := h.own
    rw [e] at h2
    exact h2.pts
theorem lay_mem {w wz : World} {B : Int} {a : Option Addr} {n c : Nat} {ss : List Sh} {gG gX gS gT Bp : Nat} {vP : Value} {X : List (Int × Int)} (h : MemAt w wz B a n c ss gG gX gS gT Bp vP X) (hn : ss.length = n) (hz : n ≤ 9223372036854775807) (hF : ∀ i, i < n → (shAt ss i).fr ≤ 9223372036854775807) (hX : X.length ≤ 2016) (hXG : gridErrM B ss = 0 → X.length = (placesOfM (gN B) ss 1).length) :
    Calls Try.prog 9 #[.agg #[.int .i64 B, .slice (some ⟨gS, 0, none⟩) n (n + 3)], .slice (some ⟨gT, 0, none⟩) 1 4] wz fun e w' => ∃ a' n' c', e = .returned (.tuple #[.slice a' n' c', .int .i64 (gridErrM B ss)]) ∧ Below wz.heap.size wz w' ∧ n' ≤ 14 ∧ (0 < n' → ∃ g gs N ls, a' = some ⟨g, 0, none⟩ ∧ n' = 14 ∧ N ≤ 144 ∧ RowsO w' wz.heap.size g N gs ls 14) ∧ (∃ rs, RowsP w' a' rs ∧ rs.length = n' ∧ (∀ i, i < n' → (rowAt rs i).length ≤ 144) ∧ (gridErrM B ss = 0 → rowsOk (gN B) rs = true ∧ takeM (gN B) ss rs 1 = X)) := by
  refine (lay_own B ss n (n + 3) (some ⟨gS, 0, none⟩) [⟨1, X⟩] (some ⟨gT, 0, none⟩) 1 4 wz h.arr.shs hn hz hF h.parts rfl (by omega) (fun i hi => ?_) (fun i hi => ?_)).mono ?_
  · have h0 : i = 0 := by omega
    subst h0
    show X.length ≤ _
    omega
  · have h0 : i = 0 := by omega
    subst h0
    exact WalkArith.wf_i64 (n := 1) (by omega)
  rintro e w' ⟨v, E, rfl, hb, h0, h1⟩
  by_cases hG : gridErrM B ss = 0
  · have hnd : NoDups [(⟨1, X⟩ : Prt)] 1 := fun i hi j hj => by omega
    have htw : twiceM [(⟨1, X⟩ : Prt)] = false := twice_no hnd
    have hall : ∀ i, i < ([(⟨1, X⟩ : Prt)]).length → (prAt [(⟨1, X⟩ : Prt)] i).pts.length = (placesOfM (gN B) ss (prAt [(⟨1, X⟩ : Prt)] i).who).length := fun i hi => by
      have h0 : i = 0 := by simpa using hi
      subst h0
      exact hXG hG
    obtain ⟨rfl, g, gs, rfl, hR⟩ := ((h1 hG).2 htw).2 hall
    have hB := (griderr_good hG).1
    have hN : gN B ≤ 144 := by unfold gN; omega
    have hrow : ∀ t, t < 14 → rowAt ((List.range 14).map (rowL (gN B) (layAt (gN B) ss [⟨1, X⟩]))) t = rowL (gN B) (layAt (gN B) ss [⟨1, X⟩]) t := fun t ht => by simp [rowAt, List.getD, ht]
    refine ⟨some ⟨g, 0, none⟩, 14, 14, by rw [hG], hb, by omega, fun _ => ⟨g, gs, gN B, _, rfl, rfl, hN, hR⟩, _, hR.rows, by simp, fun i hi => by rw [hrow i hi, rowL_length]; exact hN, fun _ => ⟨?_, ?_⟩⟩
    · unfold rowsOk
      exact rowsTo_good (by simp) _ (fun i hi => by rw [hrow i (by simpa using hi), rowL_length])
    · have := take_lay (N := gN B) (ss := ss) (ps := [⟨1, X⟩]) (ls := (List.range 14).map (rowL (gN B) (layAt (gN B) ss [⟨1, X⟩]))) hnd (fun t ht z hz => by rw [hrow t ht, rowL_at _ _ _ hz]) (i := 0) (by simp) (hXG hG)
      exact this
  · obtain ⟨rfl, rfl⟩ := h0 hG
    exact ⟨none, 0, 0, rfl, hb, by omega, fun h => by omega, [], fun h => absurd rfl h, rfl, fun i hi => by omega, fun h => absurd h hG⟩
theorem take_mem {w wz : World} {B : Int} {a : Option Addr} {n c : Nat} {ss : List Sh} {gG gX gS gT Bp : Nat} {vP : Value} {X : List (Int × Int)} (h : MemAt w wz B a n c ss gG gX gS gT Bp vP X) (hn : ss.length = n) (hz : n ≤ 9223372036854775807) (hF : ∀ i, i < n → (shAt ss i).fr ≤ 9223372036854775807) (hX : X.length ≤ 2016) (hXG : gridErrM B ss = 0 → X.length = (placesOfM (gN B) ss 1).length)
    {rs : List (List (Int × Int))} {ar : Option Addr} {nr cr : Nat} (hR : RowsP wz ar rs) (hl : rs.length = nr) (h14 : nr ≤ 14) (hr : ∀ i, i < nr → (rowAt rs i).length ≤ 144) (hT : gridErrM B ss = 0 → rowsOk (gN B) rs = true ∧ takeM (gN B) ss rs 1 = X) :
    Calls Try.prog 10 #[.agg #[.int .i64 B, .slice (some ⟨gS, 0, none⟩) n (n + 3)], .slice ar nr cr, .int .i64 1] wz fun e w' => ∃ a' n' c' ys, e = .returned (.tuple #[.slice a' n' c', .int .i64 (gridErrM B ss)]) ∧ Below wz.heap.size wz w' ∧ w'.ownsRow wz.heap.size 47 2 (.slice a' n' c') n' ys ∧ n' ≤ 2016 ∧ (gridErrM B ss = 0 → n' = X.length ∧ Pts w' a' X) := by
  refine (take_own B 1 ss n (n + 3) (some ⟨gS, 0, none⟩) rs ar nr cr wz h.arr.shs hn hz hF hR hl (by omega) (fun i hi => Nat.le_trans (hr i hi) (by omega))).mono ?_
  rintro e w' ⟨v, E, rfl, hb, h0, h1⟩
  by_cases hG : gridErrM B ss = 0
  · obtain ⟨hr1, hr2⟩ := hT hG
    obtain ⟨rfl, g, hg, rfl, hP⟩ := (h1 hG).2 hr1
    rw [hr2] at hP
    have hl2 := hXG hG
    exact ⟨some ⟨g, 0, none⟩, _, _, _, by rw [hG], hb, hP.owns hg hl2 (by unfold maxLen; omega), by omega, fun _ => ⟨hl2.symm, hP.pts⟩⟩
  · obtain ⟨rfl, rfl⟩ := h0 hG
    exact ⟨none, 0, 0, [], rfl, hb, World.ownsRow_nil _ _ _ _, by omega, fun h => absurd h hG⟩
end Go.Proofs.Ytjpohfghibhkiad
