import Derived.Test.YtbjgfoiikhbonafK27
import Derived.Test.YtbjgfoiikhbonafK32
set_option linter.unusedVariables false
set_option linter.unusedSimpArgs false
namespace Go.Proofs.Ytbjgfoiikhbonaf
open Go.ChangeShapes Go.WideShapes Go.ChangeAt Go.RowKit
theorem flatMap_congrR {f g : Nat → List GapM} : ∀ {k : Nat}, (∀ i, i < k → f i = g i) → (List.range k).flatMap f = (List.range k).flatMap g
  | 0, _ => rfl
  | k + 1, h => by
    rw [List.range_succ, List.flatMap_append, List.flatMap_append, flatMap_congrR (fun i hi => h i (by omega))]
    simp [h k (by omega)]
def Rcv (w : World) (p : Addr) (F : List Nat) (r : InM) : Prop := ∃ b g c us, p = ⟨b, 0, none⟩ ∧ F = rcvF b g us ∧ PRcv w b (r.fst % 64) g c us ∧ RcvM r us
theorem RcvM.ok {r : InM} {us : List TkP} (h : RcvM r us) (j : Nat) : TkOk (us.getD j .zero) := by
  rcases Nat.lt_or_ge j us.length with hj | hj
  · have := h.un j hj
    exact ⟨this.srt, this.hi, this.lh, this.dl⟩
  · rw [getD_ge hj]
    exact TkOk.zero
theorem rcv_lt {w : World} {p : Addr} {F : List Nat} {r : InM} (h : Rcv w p F r) : ∀ x ∈ F, x < w.heap.size := by
  obtain ⟨b, g, c, us, -, rfl, h1, -⟩ := h
  exact h1.lt
theorem rcv_kept {w w' : World} {p : Addr} {F T : List Nat} {r : InM} (h : Rcv w p F r) (hk : Kept T w w') (hd : ∀ x ∈ F, x ∉ T) : Rcv w' p F r := by
  obtain ⟨b, g, c, us, rfl, rfl, h1, h2⟩ := h
  exact ⟨b, g, c, us, rfl, rfl, h1.kept hk hd, h2⟩
theorem rcv_new (k : Int) (w : World) (h1 : 1 ≤ k) (h2 : k ≤ 32) : Calls Try.prog 13 #[.int .i64 k] w fun e w' => ∃ p F, e = .returned (.tuple #[.pointer (some p), .int .i64 0]) ∧ Rcv w' p F (InM.new k.toNat) ∧ (∀ x ∈ F, w.heap.size ≤ x) ∧ Below w.heap.size w w' := by
  obtain ⟨n, rfl⟩ : ∃ n : Nat, k = (n : Int) := ⟨k.toNat, by omega⟩
  rw [Int.toNat_natCast]
  refine (newReceiver_good w (by omega) (by omega)).mono ?_
  rintro e w' ⟨b, g, rfl, hp, hb, hg, hB⟩
  refine ⟨_, _, rfl, ⟨b, g, n, _, rfl, rfl, hp, RcvM.new (by omega) (by omega)⟩, fun x hx => ?_, hB⟩
  rcases rcvF_mem hx with rfl | rfl | ⟨i, l, e⟩
  · exact hb
  · exact hg
  · rw [getD_rep, TkP.zero_blk] at e
    cases e
theorem rcv_newBad (k : Int) (w : World) (h : k < 1 ∨ 32 < k) : Calls Try.prog 13 #[.int .i64 k] w fun e w' => e = .returned (.tuple #[.pointer none, .int .i64 1]) ∧ Below w.heap.size w w' := by
  refine (newReceiver_bad w h).mono ?_
  rintro e w' ⟨rfl, rfl⟩
  exact ⟨rfl, Below.refl _ _⟩
theorem ahead_mod (num : Int) (n : Nat) : aheadN num (n % 64) = aheadN num n := by
  unfold aheadN
  rw [Nat.mod_mod]
theorem rowLow {w : World} {B B' k n : Nat} {T : TypeId} {v : Value} {xs : List Value} (h : w.ownsRow B T k v n xs) (hb : B' ≤ B) : w.ownsRow B' T k v n xs := ⟨h.1, h.2.imp id fun ⟨g, cap, cur, h1, h2, h3⟩ => ⟨g, cap, cur, h1, Nat.le_trans hb h2, h3⟩⟩
theorem txs_nil (w : World) (a : Option Addr) : Txs w a [] := fun h => absurd rfl h
def TakeOut (w : World) (p : Addr) (F : List Nat) (r : InM) (x : PieceM) : Ending → World → Prop := fun e w' => ∃ a n c, e = .returned (.tuple #[.slice a n c, .int .i64 (r.take x).err]) ∧ Txs w' a (r.take x).out ∧ (r.take x).out.length = n ∧ NewAt w.heap.size a ∧ Kept F w w' ∧ ∃ F', Rcv w' p F' (r.take x).m ∧ Grown w.heap.size F F' ∧ NotIn F' a
/-- .. and what came out is the caller's own. -/
def TakeOutO (w : World) (p : Addr) (F : List Nat) (r : InM) (x : PieceM) : Ending → World → Prop := fun e w' => ∃ a n c, e = .returned (.tuple #[.slice a n c, .int .i64 (r.take x).err]) ∧ n ≤ 32 ∧ w'.ownsRow w.heap.size 9 1 (.slice a n c) n ((r.take x).out.map Value.string) ∧ TakeOut w p F r x e w'
theorem take_none {w w' : World} {p : Addr} {F : List Nat} {r : InM} {x : PieceM} {E : Int} (h : Rcv w p F r) (hr : r.take x = ⟨r, [], E⟩) (hb : Below w.heap.size w w') : TakeOutO w p F r x (.returned (.tuple #[.slice none 0 0, .int .i64 E])) w' := by
  unfold TakeOutO TakeOut
  rw [hr]
  exact ⟨none, 0, 0, rfl, by omega, World.ownsRow_nil _ _ _ _, none, 0, 0, rfl, txs_nil _ _, rfl, (fun y hy => by cases hy), Kept.of_below hb, F, rcv_kept h (Kept.of_below (S := []) hb) (by simp), (fun y hy => Or.inl hy), (fun y hy => by cases hy)⟩
theorem rcv_takeO {w : World} {p : Addr} {F : List Nat} {r : InM} (x : PieceM) (h : Rcv w p F r) (hs : x.data.size ≤ manyB) : Calls Try.prog 18 #[.pointer (some p), x.val] w (TakeOutO w p F r x) := by
  have h0 := h
  obtain ⟨b, g, c, us, rfl, rfl, h1, h2⟩ := h
  have hlen := h2.len
  have hw2 := h2.w2
  have hok := h2.ok
  have hA : aheadN x.num (r.fst % 64) = aheadN x.num r.fst := ahead_mod _ _
  have hfs : r.fst % 64 < 64 := Nat.mod_lt _ (by omega)
  by_cases q1 : x.bad = true
  · refine (rtake_none x h1 (by omega) hfs hok hs 3 (.inl ⟨q1, rfl⟩)).mono ?_
    rintro e w' ⟨rfl, hb⟩
    exact take_none h0 (by unfold InM.take; rw [if_pos q1]) hb
  · have q1' : x.bad = false := by simpa using q1
    by_cases q2 : r.win ≤ aheadN x.num r.fst
    · refine (rtake_none x h1 (by omega) hfs hok hs 8 (.inr (.inl ⟨q1', by rw [hA, hlen]; exact q2, rfl⟩))).mono ?_
      rintro e w' ⟨rfl, hb⟩
      exact take_none h0 (by unfold InM.take; rw [if_neg q1, if_pos q2]) hb
    · have hlt : aheadN x.num r.fst < us.length := by omega
      have hT := h2.un _ hlt
      have hcl := hT.clash (p := x)
      by_cases q3 : r.clash (r.fst + aheadN x.num r.fst) x = true
      · refine (rtake_none x h1 (by omega) hfs hok hs 3 (.inr (.inr ⟨q1', by rw [hA]; exact hlt, by rw [hA, ← hcl]; exact q3, rfl⟩))).mono ?_
        rintro e w' ⟨rfl, hb⟩
        exact take_none h0 (by unfold InM.take; rw [if_neg q1, if_neg q2, if_pos q3]) hb
      · have q3' : r.clash (r.fst + aheadN x.num r.fst) x = false := by simpa using q3
        obtain ⟨-, -, -, hab, hb15, -⟩ := pieceOk q1'
        have hsome := rtake_some x h1 (by omega) hfs hok hs q1' (by rw [hA]; exact hlt) (by rw [hA, ← hcl]; exact q3')
        rw [hA] at hsome
        refine hsome.mono ?_
        rintro e w' ⟨x', w6, ha, h6, hk6, hg6, k, a, cc, rfl, kk, a', cc', hk, e1, hw1, hw2', hTx, hN, hbd, hK7, hP7, hO7⟩
        simp only [Ending.returned.injEq, Value.slice.injEq] at e1
        obtain ⟨rfl, rfl, rfl⟩ := e1
        have hM := h2.put hlt ha hab hb15 q3'
        have hup := hM.upto hk hw1 hw2'
        have hout := hM.out hk hw1
        have hMt := hM.tell hk
        have hlk : k ≤ us.length := by rw [List.length_set] at hk; exact hk
        have htk : r.take x = ⟨{ r.put (r.fst + aheadN x.num r.fst) x with fst := r.fst + k }, textsT ((us.set (aheadN x.num r.fst) x').take k), 0⟩ := by
          unfold InM.take
          rw [if_neg q1, if_neg q2, if_neg q3]
          unfold InM.tell
          rw [hup]
          have e2 : (r.put (r.fst + aheadN x.num r.fst) x).fst = r.fst := rfl
          rw [e2, Nat.add_sub_cancel_left]
          rw [e2] at hout
          rw [hout]
          rfl
        unfold TakeOutO TakeOut
        rw [htk]
        refine ⟨a, k, cc, rfl, by omega, rowLow hO7 hk6.size, a, k, cc, rfl, hTx, ?_, fun y hy => Nat.le_trans hk6.size (hN y hy), ?_, rcvF b g ((us.set (aheadN x.num r.fst) x').drop k ++ List.replicate k .zero), ⟨b, g, c, (us.set (aheadN x.num r.fst) x').drop k ++ List.replicate k TkP.zero, rfl, rfl, ?_, hMt⟩, fun y hy => hg6 y (rcvF_tell hk y hy), fun y hy hm => ?_⟩
        · unfold textsT
          rw [List.length_map, List.length_take]
          omega
        · refine hk6.trans (hK7.wider (fun y hy => ?_))
          simp at hy
          rcases hy with rfl | rfl
          · exact rcvF_b _ _ _
          · exact rcvF_g _ _ _
        · have e3 : (r.fst % 64 + k) % 64 = (r.fst + k) % 64 := by omega
          rw [e3] at hP7
          exact hP7
        · have h8 := h6.lt y.block (rcvF_tell hk _ hm)
          have h9 := hN y hy
          omega
theorem rcv_take {w : World} {p : Addr} {F : List Nat} {r : InM} (x : PieceM) (h : Rcv w p F r) (hs : x.data.size ≤ manyB) : Calls Try.prog 18 #[.pointer (some p), x.val] w (TakeOut w p F r x) := (rcv_takeO x h hs).mono (by rintro e w' ⟨a, n, c, -, -, -, h1⟩; exact h1)
theorem rcv_reportO {w : World} {p : Addr} {F : List Nat} {r : InM} (h : Rcv w p F r) : Calls Try.prog 27 #[.pointer (some p)] w fun e w' => ∃ a n c, e = .returned (.agg #[.int .i64 r.report.next, .slice a n c]) ∧ Gps w' a r.report.miss ∧ r.report.miss.length = n ∧ n ≤ maxLen ∧ NewAt w.heap.size a ∧ Kept F w w' ∧ ∃ F', Rcv w' p F' r ∧ Grown w.heap.size F F' ∧ NotIn F' a ∧ n ≤ 100000 ∧ w'.ownsRow w.heap.size 130 3 (.slice a n c) n (cellsGp r.report.miss) ∧ Below w.heap.size w w' := by
  have h0 := h
  obtain ⟨b, g, c, us, rfl, rfl, h1, h2⟩ := h
  have hlen := h2.len
  have hw2 := h2.w2
  have hok := h2.ok
  refine (rreport_any h1 (by omega) (Nat.mod_lt _ (by omega)) (fun i => (hok i).srt) (fun i => (hok i).hi) (fun i => (hok i).lh)).mono ?_
  rintro e w' ⟨k, a, n, c', hk, hk1, hk2, rfl, hG, hn, hm, hN, hB, hL, hO⟩
  have hnx := h2.nxt hk hk1 hk2
  have hms : r.report.miss = gapsTo (r.fst % 64) us k := by
    unfold InM.report gapsTo
    rw [hnx, Nat.add_sub_cancel_left]
    show (List.range k).flatMap _ = _
    have key : ∀ i, i < k → r.gaps (r.fst + i) = gapsOf (r.fst % 64) i (us.getD i .zero) := fun i hi => by
      rw [(h2.un i (by omega)).gaps]
      unfold gapsOf
      rw [show (r.fst % 64 + i) % 64 = (r.fst + i) % 64 by omega]
    exact flatMap_congrR key
  have hnt : r.report.next = (((r.fst % 64 + k) % 64 : Nat) : Int) := by
    show ((r.nxt % 64 : Nat) : Int) = _
    rw [hnx]
    congr 1
    omega
  have hK : Kept [] w w' := Kept.of_below hB
  rw [hms, hnt]
  refine ⟨a, n, c', rfl, hG, hn, hm, hN, hK.wider (by simp), _, rcv_kept h0 hK (by simp), fun x hx => .inl hx, fun x hx hmem => ?_, hL, rowLow hO (by omega), hB⟩
  have h3 := h1.lt _ hmem
  have h4 := hN x hx
  omega
theorem rcv_report {w : World} {p : Addr} {F : List Nat} {r : InM} (h : Rcv w p F r) : Calls Try.prog 27 #[.pointer (some p)] w fun e w' => ∃ a n c, e = .returned (.agg #[.int .i64 r.report.next, .slice a n c]) ∧ Gps w' a r.report.miss ∧ r.report.miss.length = n ∧ n ≤ maxLen ∧ NewAt w.heap.size a ∧ Kept F w w' ∧ ∃ F', Rcv w' p F' r ∧ Grown w.heap.size F F' ∧ NotIn F' a := (rcv_reportO h).mono (by rintro e w' ⟨a, n, c, h1, h2, h3, h4, h5, h6, F', h7, h8, h9, -⟩; exact ⟨a, n, c, h1, h2, h3, h4, h5, h6, F', h7, h8, h9⟩)
end Go.Proofs.Ytbjgfoiikhbonaf
