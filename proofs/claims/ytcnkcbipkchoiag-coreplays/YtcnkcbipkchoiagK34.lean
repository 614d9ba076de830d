import Derived.Test.YtcnkcbipkchoiagK29
import Derived.Test.YtcnkcbipkchoiagK30
import Derived.Test.YtcnkcbipkchoiagK31
import Derived.Test.YtcnkcbipkchoiagK32
import Derived.Test.YtcnkcbipkchoiagK33
import Derived.Test.YtcnkcbipkchoiagK23
import Derived.Deep.DeepCutAuto
import Derived.Test.YtcnkcbipkchoiagK04
import Derived.SizedLaws
import Derived.Deep.Strs
import Derived.Deep.SlicePairs
import Derived.Lib.SmallJoins
namespace Go.Proofs.Ytcnkcbipkchoiag
open Go.ChangeShapes Go.WideShapes Go.ChangeAt Go.RowKit
theorem deed_any {w0 w : World} {c r n : Nat} {m : CoM} (d : DeedM) (k : Du w0 w c r m n) (ok : d.ok) (hn : n < 3518437208880) : Calls Try.prog 25 #[ptrV c, ptrV r, d.val] w (DeedPost w0 c r m d n) := by
  by_cases h0 : d.kind = 0
  · exact deed0 d k ok hn h0
  by_cases h1 : d.kind = 1
  · exact deed1 d k ok hn h1
  by_cases h2 : d.kind = 2
  · exact deed2 d k ok hn h2
  by_cases h3 : d.kind = 3
  · exact deed3 d k ok hn h3
  by_cases h4 : d.kind = 4
  · exact deed4 d k ok hn h4
  by_cases h5 : d.kind = 5
  · exact deed5 d k ok hn h5
  by_cases h6 : d.kind = 6
  · exact deed6 d k ok hn h6
  exact deed7 d k ok hn h0 h1 h2 h3 h4 h5 h6
set_option maxRecDepth 100000 in
theorem rnew_any (w : World) (u : Nat) (h : 1 ≤ u ∧ u ≤ 1000000) : RCo (w.alloc (.cells (Try.zeroCells67.setIfInBounds 0 (.int .i64 (u : Int))) 67)) w.heap.size (rfF w.heap.size none) (.new u) 0 := by
  refine ⟨none, 0, fun _ => ⟨false, false, false, 0, 0⟩, rfl, ?_, World.ownsRow_nil _ _ _ _, ?_, fun k _ _ => rfl, CoM.Ok.new h⟩
  · have h1 : At (w.alloc (.cells (Try.zeroCells67.setIfInBounds 0 (.int .i64 (u : Int))) 67)) w.heap.size 67 (Try.zeroCells67.setIfInBounds 0 (.int .i64 (u : Int))).toList := by
      unfold At
      rw [Array.toArray_toList]
      exact heap_alloc_new w _
    unfold FnA
    rw [show (List.range 87).map (rcF ((CoM.new u).unit : Int) (fun _ => ⟨false, false, false, 0, 0⟩) (.slice none (CoM.new u).loans.length 0)) = (Try.zeroCells67.setIfInBounds 0 (.int .i64 (u : Int))).toList from rfl]
    exact h1
  · intro y hy
    cases hy
/-- Deeds that come in. -/
def Dds (w : World) (a : Option Addr) (ds : List DeedM) : Prop := ds ≠ [] → ∃ b o, a = some ⟨b, o, none⟩ ∧ ∀ i, i < ds.length → ∀ j v, (ds.getD i .zero).cells[j]? = some v → w.cell? ⟨b, o + i * 8 + j, none⟩ = some v
theorem Dds.at {w w' : World} {a : Option Addr} {ds : List DeedM} (h : Dds w a ds) (hb : Below w.heap.size w w') {i : Nat} (hi : i < ds.length) : ∃ b o, a = some ⟨b, o, none⟩ ∧ ∀ j v, (ds.getD i .zero).cells[j]? = some v → w'.cell? ⟨b, o + i * 8 + j, none⟩ = some v := by
  obtain ⟨b, o, rfl, hc⟩ := h (by intro e; subst e; simp at hi)
  refine ⟨b, o, rfl, fun j v hj => ?_⟩
  have h0 := hc i hi j v hj
  exact (hb.cell (World.block_lt_of_cell? w _ h0)).trans h0
set_option maxRecDepth 100000 in
theorem plays_bad (u : Int) (al : Option Addr) (nl cl : Nat) (w : World) (hu : u < 1 ∨ 1000000 < u) : Calls Try.prog 5 #[.int .i64 u, .slice al nl cl] w fun e w' => e = .returned (.bool true) ∧ Below w.heap.size w w' := by
  have hn := cnew_bad u w hu
  by_cases h1 : u < 1
  · clear hu
    go_enter Try.func5, Try.ntmps5
    go_wp2_with (go_at_call 24; refine hn.mono ?_; rintro e w1 ⟨rfl, rfl⟩)
    go_ret
    exact ⟨rfl, Below.refl _ _⟩
  · have h2 : 1000000 < u := by omega
    clear hu
    go_enter Try.func5, Try.ntmps5
    go_wp2_with (go_at_call 24; refine hn.mono ?_; rintro e w1 ⟨rfl, rfl⟩)
    go_ret
    exact ⟨rfl, Below.refl _ _⟩
set_option maxRecDepth 100000 in
set_option maxHeartbeats 8000000 in
theorem plays_good (u : Nat) (ds : List DeedM) (al : Option Addr) (nl cl : Nat) (w : World) (h1 : 1 ≤ u) (h2 : u ≤ 1000000) (hD : Dds w al ds) (hl : ds.length = nl) (hok : ∀ i, i < ds.length → (ds.getD i .zero).ok) (hnl : nl ≤ 2199023255488) : Calls Try.prog 5 #[.int .i64 (u : Int), .slice al nl cl] w fun e w' => e = .returned (.bool true) ∧ Below w.heap.size w w' := by
  have hn := cnew_good u w h1 h2
  have HD := hid hD
  have HL := hid hl
  have HOK := hid hok
  have g1 : ¬ (u : Int) < 1 := by omega
  have g2 : ¬ (1000000 : Int) < (u : Int) := by omega
  have HU : Hid (1 ≤ u ∧ u ≤ 1000000) := hid ⟨h1, h2⟩
  clear hD hl hok
  go_enter Try.func5, Try.ntmps5
  go_wp2_with (go_at_call 24; refine hn.mono ?_; rintro e w1 ⟨c, N, rfl, hC, hlo, hb1⟩; have HC := hid hC; have HLO := hid hlo; have HB1 := hid hb1; clear hC hlo hb1)
  have HK0 : Hid (Du w (w1.alloc (.cells (Try.zeroCells67.setIfInBounds 0 (.int .i64 (u : Int))) 67)) c w1.heap.size (.new u) 0) := hid (by
    have hk : Kept [] w1 (w1.alloc (.cells (Try.zeroCells67.setIfInBounds 0 (.int .i64 (u : Int))) 67)) := (Kept.refl _ _).alloc _
    have hcl := HC.out.lt
    have hsz := HB1.out.size
    refine ⟨coF c N (.new u), rfF w1.heap.size none, ⟨N, rfl, HC.out.kept hk (by simp)⟩, rnew_any w1 u HU.out, fun x hx hG => ?_, HLO.out, fun x hx => ?_, keptLow HB1.out hk (by simp)⟩
    · rcases rfF_mem hG with rfl | ⟨y, hy, -⟩
      · exact Nat.lt_irrefl _ (hcl _ hx)
      · cases hy
    · rcases rfF_mem hx with rfl | ⟨y, hy, -⟩
      · exact hsz
      · cases hy)
  generalize w1.alloc (.cells (Try.zeroCells67.setIfInBounds 0 (.int .i64 (u : Int))) 67) = w2 at *
  generalize w1.heap.size = r at *
  clear HC HLO HB1 hn g1 g2
  go_loopw [8] (fun vi wr => ∃ i : Nat, i ≤ nl ∧ vi = .int .i64 (i : Int) ∧ Hid (∃ m, Du w wr c r m i)) (fun vi _ => nl - (intOf vi).toNat)
  case atStart => exact ⟨0, by omega, rfl, hid ⟨_, HK0.out⟩⟩
  case round =>
    clear HK0
    obtain ⟨i, hi, rfl, HI⟩ := hrel
    obtain ⟨m, hK⟩ := HI.out
    by_cases hlt : i < nl
    · obtain ⟨ab, ao, rfl, -⟩ := HD.out.at hK.bl (i := i) (by rw [HL.out]; exact hlt)
      obtain ⟨d, ed⟩ : ∃ d, d = ds.getD i .zero := ⟨_, rfl⟩
      have hdo := HOK.out i (by rw [HL.out]; exact hlt)
      rw [← ed] at hdo
      have HCU : Hid (∀ w', Below w.heap.size w w' → ∀ j v, d.cells[j]? = some v → w'.cell? ⟨ab, ao + i * 8 + j, none⟩ = some v) := hid fun w' hb' => by
        obtain ⟨ab', ao', e', hc'⟩ := HD.out.at hb' (i := i) (by rw [HL.out]; exact hlt)
        injection e' with e'
        injection e' with e1' e2' _
        subst e1' e2'
        rw [← ed] at hc'
        exact hc'
      have hde := deed_any d hK hdo (by omega)
      obtain ⟨-, z1, -⟩ := hdo
      have HZ := hid z1
      have x0 : wr.cell? ⟨ab, ao + i * 8, none⟩ = some (.int .i64 d.kind) := HCU.out wr hK.bl 0 _ rfl
      have x1 : wr.cell? ⟨ab, ao + i * 8 + 1, none⟩ = some (.int .i64 d.who) := HCU.out wr hK.bl 1 _ rfl
      have x2 : wr.cell? ⟨ab, ao + i * 8 + 2, none⟩ = some (.int .i64 d.a) := HCU.out wr hK.bl 2 _ rfl
      have x3 : wr.cell? ⟨ab, ao + i * 8 + 3, none⟩ = some (.int .i64 d.b) := HCU.out wr hK.bl 3 _ rfl
      have x4 : wr.cell? ⟨ab, ao + i * 8 + 4, none⟩ = some (.int .i64 d.g) := HCU.out wr hK.bl 4 _ rfl
      have x5 : wr.cell? ⟨ab, ao + i * 8 + 5, none⟩ = some (.int .i64 d.t) := HCU.out wr hK.bl 5 _ rfl
      have x6 : wr.cell? ⟨ab, ao + i * 8 + 6, none⟩ = some (.int .i64 d.y) := HCU.out wr hK.bl 6 _ rfl
      have x7 : wr.cell? ⟨ab, ao + i * 8 + 7, none⟩ = some (.bool d.f) := HCU.out wr hK.bl 7 _ rfl
      have HW : Hid (∀ w', Below w.heap.size w w' → w'.cell? ⟨ab, ao + i * 8 + 1, none⟩ = some (.int .i64 d.who)) := hid fun w' hb' => HCU.out w' hb' 1 _ rfl
      obtain ⟨M, eM⟩ : ∃ M, M = m.deed d := ⟨_, rfl⟩
      have HDP : Hid (∀ e w', DeedPost w c r m d i e w' → e = .returned (.bool true) ∧ ∃ db, Dd w w' c r db 72 d.cells M M (i + 1) (i + 1)) := hid fun e w' h => by
        rw [eM]
        exact h
      obtain ⟨A, eA⟩ : ∃ A, A = M.rec3 d.who := ⟨_, rfl⟩
      obtain ⟨A0, A1, A2⟩ := A
      have HRV : Hid (recV M d.who = .agg #[.int .i64 (A0 : Int), .int .i64 (A1 : Int), .int .i64 (A2 : Int)]) := hid (by unfold recV; rw [← eA])
      obtain ⟨ER, eER⟩ : ∃ ER, ER = M.recErr d.who := ⟨_, rfl⟩
      obtain ⟨EP, eEP⟩ : ∃ EP, EP = M.pageErr d.who := ⟨_, rfl⟩
      obtain ⟨L, eL⟩ : ∃ L, L = M.page d.who := ⟨_, rfl⟩
      have HER := hid eER
      have HEP := hid eEP
      have HLL := hid eL
      have HM100 : Hid (L.length ≤ maxLen) := hid (by
        rw [eL]
        unfold CoM.page maxLen
        split
        · simp
        · split
          · simp
          · split
            · simp
            · have := areaN_le (by assumption : PrM).cell 100
              rw [areaN_all] at this
              omega)
      unfold DeedM.val at hde
      generalize d.who = who at *
      clear eM eA eER eEP eL HI hK ed HD HL HOK HCU z1
      unfold ptrV at *
      go_wp2_with (first
        | (go_at_call 25; refine hde.mono ?_; intro e w1 hdp; obtain ⟨rfl, db, k1⟩ := HDP.out e w1 hdp; have y1 := HW.out _ k1.bl; have K1 := hid k1; clear k1 hdp hde)
        | (go_at_call 26; refine (dp_record K1.out HZ.out).mono ?_; rw [HRV.out, ← HER.out]; rintro e w3 ⟨rfl, hb3⟩; have K3 := hid (Dd.idle K1.out ((Kept.of_below (S := []) hb3).alloc (.cells #[.int .i64 (A0 : Int), .int .i64 (A1 : Int), .int .i64 (A2 : Int)] 74))); have y3 := HW.out _ K3.out.bl; have q3 : Hid (At (w3.alloc (.cells #[.int .i64 (A0 : Int), .int .i64 (A1 : Int), .int .i64 (A2 : Int)] 74)) w3.heap.size 74 [.int .i64 (A0 : Int), .int .i64 (A1 : Int), .int .i64 (A2 : Int)]) := hid (at_alloc w3 74 [.int .i64 (A0 : Int), .int .i64 (A1 : Int), .int .i64 (A2 : Int)]))
        | (go_at_call 27; refine (dr_record K3.out (by unfold manyN; omega)).mono ?_; rw [HRV.out, ← HER.out]; rintro e w4 ⟨rfl, hb4⟩; have K4 := hid (Dd.idle K3.out ((Kept.of_below (S := []) hb4).alloc (.cells #[.int .i64 (A0 : Int), .int .i64 (A1 : Int), .int .i64 (A2 : Int)] 74))); have y4 := HW.out _ K4.out.bl; have q4 : Hid (At (w4.alloc (.cells #[.int .i64 (A0 : Int), .int .i64 (A1 : Int), .int .i64 (A2 : Int)] 74)) w3.heap.size 74 [.int .i64 (A0 : Int), .int .i64 (A1 : Int), .int .i64 (A2 : Int)] ∧ At (w4.alloc (.cells #[.int .i64 (A0 : Int), .int .i64 (A1 : Int), .int .i64 (A2 : Int)] 74)) w4.heap.size 74 [.int .i64 (A0 : Int), .int .i64 (A1 : Int), .int .i64 (A2 : Int)]) := hid ⟨q3.out.kept (S := []) ((Kept.of_below hb4).alloc _) (by simp), at_alloc w4 74 [.int .i64 (A0 : Int), .int .i64 (A1 : Int), .int .i64 (A2 : Int)]⟩)
        | (go_at_call 28; refine (dp_page K4.out HZ.out).mono ?_; unfold PagePost; rw [← HLL.out, ← HEP.out]; rintro e w5 ⟨a5, c5, rfl, ho5, hb5⟩; have K5 := hid (Dd.idle K4.out (Kept.of_below (S := []) hb5)); have y5 := HW.out _ K5.out.bl; have O5 := hid ho5; have q5 := hid (show At w5 w3.heap.size 74 _ ∧ At w5 w4.heap.size 74 _ from ⟨q4.out.1.kept (S := []) (Kept.of_below hb5) (by simp), q4.out.2.kept (S := []) (Kept.of_below hb5) (by simp)⟩); clear ho5)
        | (go_at_call 29; refine (dr_page K5.out).mono ?_; unfold PagePost; rw [← HLL.out, ← HEP.out]; rintro e w6 ⟨a6, c6, rfl, ho6, hb6⟩; have K6 := hid (Dd.idle K5.out (Kept.of_below (S := []) hb6)); have O6 := hid ho6; have O56 := hid (O5.out.below hb6); have q6a := (q5.out.1.kept (S := []) (Kept.of_below hb6) (by simp)); have q6b := (q5.out.2.kept (S := []) (Kept.of_below hb6) (by simp)); have m0 : w6.cell? ⟨w3.heap.size, 0, none⟩ = some (.int .i64 (A0 : Int)) := q6a.cell 0; have m1 : w6.cell? ⟨w3.heap.size, 1, none⟩ = some (.int .i64 (A1 : Int)) := q6a.cell 1; have m2 : w6.cell? ⟨w3.heap.size, 2, none⟩ = some (.int .i64 (A2 : Int)) := q6a.cell 2; have m3 : w6.cell? ⟨w4.heap.size, 0, none⟩ = some (.int .i64 (A0 : Int)) := q6b.cell 0; have m4 : w6.cell? ⟨w4.heap.size, 1, none⟩ = some (.int .i64 (A1 : Int)) := q6b.cell 1; have m5 : w6.cell? ⟨w4.heap.size, 2, none⟩ = some (.int .i64 (A2 : Int)) := q6b.cell 2; clear ho6 q6a q6b)
        | (go_at_call 30; refine (same_ints L L a5 a6 c5 c6 w6 (OwnI.rd O56.out) (OwnI.rd O6.out) HM100.out HM100.out).mono ?_; rw [show decide (L = L) = true by simp]; rintro e w7 ⟨rfl, hb7⟩))
      go_roundw
      case rel => exact ⟨i + 1, by omega, by go_num, hid ⟨M, (Dd.idle K6.out (Kept.of_below (S := []) hb7)).du⟩⟩
      case measure => simp [intOf]; omega
    · have hb9 := hK.bl
      clear hK HI HD HL HOK
      go_wp2_with fail
      go_ret
      exact ⟨rfl, hb9⟩
end Go.Proofs.Ytcnkcbipkchoiag
namespace Go.Proofs.Ytcnkcbipkchoiag
open Go.ChangeShapes Go.WideShapes Go.ChangeAt Go.RowKit Go.Maps
/-- While people join. -/
structure KqF (w0 w : World) (c qb hb : Nat) (F : List Nat) (m : CoM) (n : Nat) (q h : Nat → Int) : Prop where
  co : PCo w c F m n
  qa : ArN w qb q
  ha : ArN w hb h
  nq : qb ∉ F
  nh : hb ∉ F
  qh : qb ≠ hb
  lo : ∀ x ∈ F, w0.heap.size ≤ x
  lq : w0.heap.size ≤ qb ∧ w0.heap.size ≤ hb
  bl : Below w0.heap.size w0 w
def Kq (w0 w : World) (c qb hb : Nat) (m : CoM) (n : Nat) (q h : Nat → Int) : Prop := ∃ F, KqF w0 w c qb hb F m n q h
theorem Kq.map {w0 w : World} {c qb hb n : Nat} {m : CoM} {q h : Nat → Int} (k : Kq w0 w c qb hb m n q h) : Ke w0 (w.alloc (.map #[] 0)) c qb hb w.heap.size m n 0 q h (fun _ => none) := by
  obtain ⟨F, k⟩ := k
  have hk : Kept [] w (w.alloc (.map #[] 0)) := (Kept.refl _ w).alloc _
  have hs := k.bl.size
  exact ⟨F, k.co.kept hk (by simp), At.kept k.qa hk (by simp), At.kept k.ha hk (by simp), IMap.made w, k.nq, k.nh, fun e => Nat.lt_irrefl _ (k.co.lt _ e), k.qh, k.lo, ⟨k.lq.1, k.lq.2, hs⟩, keptLow k.bl hk (by simp)⟩
theorem Kq.cell {w0 w : World} {c qb hb n : Nat} {m : CoM} {q h : Nat → Int} (k : Kq w0 w c qb hb m n q h) {j : Nat} (hj : j < 17) : w.cell? ⟨qb, j, none⟩ = some (.int .i64 (q j)) ∧ w.frozen? ⟨qb, j, none⟩ = false := by
  obtain ⟨F, k⟩ := k
  exact ⟨k.qa.cell hj, At.free k.qa j⟩
/-- What holds while people join. -/
structure KqS (m : CoM) (q : Nat → Int) : Prop where
  qq : ∀ k p, m.per k = some p → q k.toNat = (p.quota : Int)
  ls : m.loans = []
theorem CoM.join_err (m : CoM) (x y : Int) : (m.join x y).err = m.joinErr x y := by
  unfold CoM.join
  split
  · rename_i h; rw [h]
  · rfl
theorem KqS.bad {m : CoM} {q : Nat → Int} {x y : Int} (s : KqS m q) (h : (m.join x y).err ≠ 0) : KqS (m.join x y).m q := by
  rw [CoM.join_err] at h
  unfold CoM.join
  rw [if_neg h]
  exact s
end Go.Proofs.Ytcnkcbipkchoiag
namespace Go.Proofs.Ytcnkcbipkchoiag
open Go.ChangeShapes Go.WideShapes Go.ChangeAt Go.RowKit Go.Maps
structure UsgM where
  g : Int
  t : Int
  b : Int
  f : Bool
def UsgM.zero : UsgM := ⟨0, 0, 0, false⟩
/-- Reports that come in. -/
def Usg (w : World) (a : Option Addr) (us : List UsgM) : Prop := us ≠ [] → ∃ b o, a = some ⟨b, o, none⟩ ∧ ∀ i, i < us.length → w.cell? ⟨b, o + i * 4, none⟩ = some (.int .i64 (us.getD i .zero).g) ∧ w.cell? ⟨b, o + i * 4 + 1, none⟩ = some (.int .i64 (us.getD i .zero).t) ∧ w.cell? ⟨b, o + i * 4 + 2, none⟩ = some (.int .i64 (us.getD i .zero).b) ∧ w.cell? ⟨b, o + i * 4 + 3, none⟩ = some (.bool (us.getD i .zero).f)
def UsgM.ok (u : UsgM) : Prop := In64 u.g ∧ In64 u.t ∧ In64 u.b
theorem Usg.at {w w' : World} {a : Option Addr} {us : List UsgM} (h : Usg w a us) (hb : Below w.heap.size w w') {i : Nat} (hi : i < us.length) : ∃ b o, a = some ⟨b, o, none⟩ ∧ w'.cell? ⟨b, o + i * 4, none⟩ = some (.int .i64 (us.getD i .zero).g) ∧ w'.cell? ⟨b, o + i * 4 + 1, none⟩ = some (.int .i64 (us.getD i .zero).t) ∧ w'.cell? ⟨b, o + i * 4 + 2, none⟩ = some (.int .i64 (us.getD i .zero).b) ∧ w'.cell? ⟨b, o + i * 4 + 3, none⟩ = some (.bool (us.getD i .zero).f) := by
  obtain ⟨b, o, rfl, hc⟩ := h (by intro e; subst e; simp at hi)
  obtain ⟨h0, h1, h2, h3⟩ := hc i hi
  exact ⟨b, o, rfl, (hb.cell (World.block_lt_of_cell? w _ h0)).trans h0, (hb.cell (World.block_lt_of_cell? w _ h1)).trans h1, (hb.cell (World.block_lt_of_cell? w _ h2)).trans h2, (hb.cell (World.block_lt_of_cell? w _ h3)).trans h3⟩
theorem rep_chgd {m : CoM} {g t b : Int} (f : Bool) (he : m.repErr g t b = 0) (k : Int) : (m.rep g b f).chgd k = if k = (m.at g).who then m.chgd k + b.toNat else m.chgd k := by
  have hc := CoM.rep_ok he
  have hi : g.toNat - 1 < m.loans.length := by have := hc.g1; have := hc.g2; omega
  have e2 := usedL_set k ⟨(m.at g).who, (m.at g).bytes, (m.at g).used + b.toNat, (m.at g).turn + 1, f⟩ m.loans _ hi
  have ea : m.loans.getD (g.toNat - 1) .zero = m.at g := rfl
  rw [ea] at e2
  show usedL k (m.loans.set _ _) = if k = (m.at g).who then usedL k m.loans + b.toNat else usedL k m.loans
  simp only [LnM.uc] at e2
  by_cases e : k = (m.at g).who
  · rw [if_pos e]
    rw [if_pos e.symm, if_pos e.symm] at e2
    omega
  · rw [if_neg e]
    rw [if_neg (fun e' => e e'.symm), if_neg (fun e' => e e'.symm)] at e2
    omega
theorem rep_some {m : CoM} {n : Nat} {g t b : Int} (h : m.Ok n) (he : m.repErr g t b = 0) : ∃ p, m.per (m.at g).who = some p ∧ 1 ≤ (m.at g).who ∧ (m.at g).who ≤ 16 ∧ m.chgd (m.at g).who ≤ 1000000000 ∧ 0 ≤ b ∧ b ≤ 1000000 := by
  have hc := CoM.rep_ok he
  obtain ⟨⟨p, hp⟩, h2, h3, -⟩ := h.ln _ (CoM.at_mem ⟨hc.g1, hc.g2⟩)
  obtain ⟨q1, q2, q3, -, -, -, q7⟩ := h.pr _ p hp
  have := hc.b0
  have := hc.b1
  exact ⟨p, hp, q1, q2, by omega, by omega, by omega⟩
theorem KeS.rep {m : CoM} {n : Nat} {q h : Nat → Int} {g t b : Int} (f : Bool) (s : KeS m q h) (ho : m.Ok n) (he : m.repErr g t b = 0) : KeS (m.rep g b f) q (fun i => if i = (m.at g).who.toNat then h (m.at g).who.toNat + b else h i) := by
  obtain ⟨p, hp, k1, k2, -, b0, -⟩ := rep_some ho he
  refine ⟨fun k p' hk => s.qq k p' hk, fun k h0 h1 => ?_⟩
  rw [rep_chgd f he k]
  by_cases e : k = (m.at g).who
  · subst e
    rw [if_pos rfl, if_pos rfl, s.hh _ h0 h1]
    omega
  · rw [if_neg e, if_neg (by omega), s.hh _ h0 h1]
theorem KeS.lend {m : CoM} {q h : Nat → Int} (x : Int) (s : KeS m q h) : KeS (m.lent' x) q h := s.same (fun k p' hp => ⟨p', by rw [(CoM.lent'_loans m x).2] at hp; exact hp, rfl⟩) (CoM.lent'_loans m x).1
theorem KeS.leave {m : CoM} {q h : Nat → Int} (x : Int) (s : KeS m q h) : KeS (m.leave x).m q h := s.same (fun _ _ hp => CoM.leave_per hp) (CoM.leave_loans m x).2
theorem KeS.attach {m : CoM} {q h : Nat → Int} (x y : Int) (s : KeS m q h) : KeS (m.attach x y).m q h := s.same (fun _ _ hp => CoM.attach_per hp) (fun k => by show usedL k _ = usedL k _; rw [CoM.attach_loans])
theorem Ke.hcell {w0 w : World} {c qb hb wm n nw : Nat} {m : CoM} {q h : Nat → Int} {V : Int → Option Value} (k : Ke w0 w c qb hb wm m n nw q h V) {j : Nat} (hj : j < 17) : w.cell? ⟨hb, j, none⟩ = some (.int .i64 (h j)) ∧ w.frozen? ⟨hb, j, none⟩ = false ∧ w.cell? ⟨qb, j, none⟩ = some (.int .i64 (q j)) := by
  obtain ⟨F, k⟩ := k
  exact ⟨k.ha.cell hj, At.free k.ha j, k.qa.cell hj⟩
end Go.Proofs.Ytcnkcbipkchoiag
namespace Go.Proofs.Ytcnkcbipkchoiag
open Go.ChangeShapes Go.WideShapes Go.ChangeAt Go.RowKit
open Go.ChangeMaps (open_string shut_string)
theorem Try.own : ownKnob Try.prog.godebug = none := by kernel_rfl
theorem Try.laidOut : laidOutB Try.prog = true := by kernel_rfl
/-- The datum of a slice with so many places. -/
def Places {H : Type} (d : DataW H) (c : Nat) : Prop := (d = .nil ∧ c = 0) ∨ ∃ elems spare, d = .slice elems spare ∧ elems.length + spare.length = c
theorem places_sized {H : Type} {P : Program} {ts : List TypeId} {ds : List (DataW H)} (h : (DataW.weightsEach P ts ds).all (· ≤ reachBytes) = true) {j : Nat} {t e : TypeId} {d : DataW H} {c : Nat}
    (ht : ts[j]? = some t) (hd : ds[j]? = some d) (hu : P.underlying t = some (.slice e)) (hp : Places d c) : c * P.bytesOf e ≤ 140737488351232 := by
  rcases hp with ⟨_, rfl⟩ | ⟨elems, spare, rfl, rfl⟩
  · omega
  · exact sized_slice h ht hd hu
end Go.Proofs.Ytcnkcbipkchoiag
namespace Go.Proofs.Ytcnkcbipkchoiag
open Go.ChangeShapes Go.WideShapes Go.ChangeAt Go.RowKit Go.Deep
theorem addrAddK (b off j : Nat) : (⟨b, off, none⟩ : Addr).add j = ⟨b, off + j, none⟩ := by unfold Addr.add; split <;> simp_all
theorem wf_in64 {x : Int} (h : (Lit.int .i64 x).wf = true) : In64 x := bounds_i64 h
end Go.Proofs.Ytcnkcbipkchoiag
