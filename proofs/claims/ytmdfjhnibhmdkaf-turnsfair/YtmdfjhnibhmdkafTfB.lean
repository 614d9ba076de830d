import Derived.Test.YtmdfjhnibhmdkafTfA
import Derived.Deep.CutBlock
import Derived.Deep.CutRange
namespace Go.Proofs.Ytmdfjhnibhmdkaf
open Go.ChangeShapes Go.WideShapes Go.ChangeAt Go.RowKit

/-! THE LAW TurnsFair. -/

theorem and_lowT (x : Int) (i : Nat) (hi : i ≤ 62) : bits BinOp.and IntKind.i64 x (2 ^ i - 1) = x % 2 ^ i := by
  have hp : (0 : Int) < 2 ^ i := Int.pow_pos (by decide)
  have hle : (2 : Int) ^ i ≤ 2 ^ 62 := by exact_mod_cast Nat.pow_le_pow_right (by decide) hi
  have hnat : 2 ^ i - 1 < 2 ^ 64 := by
    have : 2 ^ i ≤ 2 ^ 62 := Nat.pow_le_pow_right (by decide) hi
    omega
  have hc : ((2 : Int) ^ i - 1) = ((2 ^ i - 1 : Nat) : Int) := by
    rw [Int.natCast_sub (Nat.two_pow_pos i)]; simp
  rw [hc]
  have hb : bits BinOp.and IntKind.i64 x ((2 ^ i - 1 : Nat) : Int) = IntKind.i64.wrap (((x % ((2 ^ 64 : Nat) : Int)).toNat % 2 ^ i : Nat) : Int) := by
    have e1 : (BitVec.ofInt 64 x &&& BitVec.ofInt 64 ((2 ^ i - 1 : Nat) : Int)).toNat = (x % ((2 ^ 64 : Nat) : Int)).toNat % 2 ^ i := by
      rw [BitVec.toNat_and, BitVec.ofInt_natCast, BitVec.toNat_ofNat, BitVec.toNat_ofInt, Nat.mod_eq_of_lt hnat, Nat.and_two_pow_sub_one_eq_mod]
    exact congrArg (fun n : Nat => IntKind.i64.wrap (n : Int)) e1
  rw [hb]
  have h0 : 0 ≤ x % ((2 ^ 64 : Nat) : Int) := Int.emod_nonneg _ (by decide)
  have e : (((x % ((2 ^ 64 : Nat) : Int)).toNat % 2 ^ i : Nat) : Int) = x % 2 ^ i := by
    rw [Int.natCast_emod, Int.toNat_of_nonneg h0]
    have hd : ((2 ^ i : Nat) : Int) ∣ ((2 ^ 64 : Nat) : Int) := Int.natCast_dvd_natCast.2 (Nat.pow_dvd_pow 2 (by omega))
    rw [Int.emod_emod_of_dvd _ hd]
    simp
  rw [e, IntKind.wrap_i64]
  have h1 := Int.emod_nonneg x (Int.ne_of_gt hp)
  have h2 := Int.emod_lt_of_pos x hp
  omega
theorem and63 (x : Int) : bits BinOp.and IntKind.i64 x 63 = x % 64 := and_lowT x 6 (by decide)
theorem cell_three_new (w : World) (x y z : Value) (T : TypeId) (k : Nat) (u : Value) (hk : ([x, y, z] : List Value)[k]? = some u) : (w.alloc (.cells #[x, y, z] T)).cell? ((⟨w.heap.size, 0, none⟩ : Addr).add k) = some u := by
  rw [Addr.add_lit, Nat.zero_add, cell_of_row _ _ _ _ _ _ (heap_alloc_new w _)]
  simpa using hk
/-- 'append(users, u)'. -/
theorem wpList_pushU {ops : Array Oper} {rest : List Oper} {o : Oper} {a : Act} {Q : Exit → Act → World → Prop} {w0 : World} {v : Value} {l : List UsM} (B : Nat) (w00 : World) (t : UsM) (hown : OwnU w0 B v l) (hgd : o.guard = none) (s x : Operand)
    (ho : o.op = .call { callee := .builtin .append, args := #[s, x], argTypes := #[34, 34] }) (hs : a.eval s = v)
    (hx : a.eval x = .slice (some ⟨w0.heap.size, 0, none⟩) 1 1) (hlen : l.length < 1000) (hbel : Below B w00 w0) (hB : B ≤ w0.heap.size)
    (h : ∀ v' w', OwnU w' B v' (l ++ [t]) → Below B w00 w' → wpList Try.prog ops Q rest (a.put o.dst v') w') : wpList Try.prog ops Q (o :: rest) a (w0.alloc (.cells #[.int .i64 t.who, .int .i64 t.byt, .int .i64 t.fit] 41)) := by
  obtain ⟨i0, hi, hz0, hz1, hz2⟩ := info_parts Try.infoUs
  refine wpList_append_own _ hgd s x 34 ho B 41 i0 (.agg #[.int .i64 0, .int .i64 0, .int .i64 0]) 3 24 Try.underlying34 hi hz0 hz1 hz2 rfl (by decide) v _ _ hs (World.ownsRow.alloc hown _) ⟨w0.heap.size, 0, none⟩ 1 1 t.cells hx rfl (cell_three_new _ _ _ _ _) ?_ ?_ ?_ ?_ ?_
  · intro u hu; simp [UsM.cells] at hu; rcases hu with rfl | rfl | rfl <;> rfl
  · unfold maxLen; omega
  · omega
  · simp; omega
  · intro v' w' h1 h2 _
    refine h v' w' ?_ ((hbel.alloc hB _).grown h2 (by simp; omega) (fun k hk => (hown.lt k hk).1))
    unfold OwnU
    rw [List.length_append, show cellsU (l ++ [t]) = cellsU l ++ t.cells by simp [cellsU]]
    exact h1
theorem OwnU.usr {w : World} {B n c : Nat} {a : Option Addr} {l : List UsM} (h : OwnU w B (.slice a n c) l) : Usr w a l := by
  intro hne
  obtain ⟨gb, c', e, -, -, hC⟩ := h.at (by rcases l with _ | ⟨x, l⟩; exact absurd rfl hne; simp)
  simp only [Value.slice.injEq] at e
  obtain ⟨rfl, -, -⟩ := e
  refine ⟨gb, 0, rfl, fun i hi => ?_⟩
  rw [Nat.zero_add]
  exact (hC i hi).1
theorem OwnU.kept {w w' : World} {B : Nat} {v : Value} {l : List UsM} {S : List Nat} (h : OwnU w B v l) (hk : Kept S w w') (hs : ∀ g, v.ownBlock = some g → g ∉ S) : OwnU w' B v l := by
  refine ⟨h.1, ?_⟩
  rcases h.2 with h' | ⟨g, cap, cur, h1, h2, h3, h4⟩
  · exact .inl h'
  · have hlt : g < w.heap.size := (Array.getElem?_eq_some_iff.1 h3).1
    exact .inr ⟨g, cap, cur, h1, h2, (hk.block g hlt (hs g (by rw [h1]; rfl))).trans h3, h4⟩
theorem OwnI.keptF {w w' : World} {B : Nat} {v : Value} {L : List Int} {S : List Nat} (h : OwnI w B v L) (hk : Kept S w w') (hs : ∀ g, v.ownBlock = some g → g ∉ S) : OwnI w' B v L := by
  refine ⟨h.1, ?_⟩
  rcases h.2 with h' | ⟨g, cap, cur, h1, h2, h3, h4⟩
  · exact .inl h'
  · have hlt : g < w.heap.size := (Array.getElem?_eq_some_iff.1 h3).1
    exact .inr ⟨g, cap, cur, h1, h2, (hk.block g hlt (hs g (by rw [h1]; rfl))).trans h3, h4⟩
/-- Sums of what was given, modulo 2^64. -/
def GvAt (w : World) (g : Nat) (G : Nat → Int) : Prop := FunAt 28 17 w g (fun a => .int .i64 (wrap64 (G a)))
theorem GvAt.cell {w : World} {g : Nat} {G : Nat → Int} (h : GvAt w g G) {a : Nat} (ha : a ≤ 16) : w.cell? ⟨g, a, none⟩ = some (.int .i64 (wrap64 (G a))) := FunAt.cell h (by omega)
theorem GvAt.set {w : World} {g : Nat} {G : Nat → Int} (h : GvAt w g G) (a : Nat) (x y : Int) (e : y = wrap64 x) : GvAt (w.setCell ⟨g, a, none⟩ (.int .i64 y)) g (upd G a x) := FunAt.set h fun i _ => by
  unfold upd
  by_cases ei : i = a
  · rw [if_pos ei, if_pos ei, e]
  · rw [if_neg ei, if_neg ei]
theorem wrap64_zero : wrap64 0 = 0 := by unfold wrap64; omega
theorem gv_new (w : World) : GvAt (w.alloc (.cells #[.int .i64 0, .int .i64 0, .int .i64 0, .int .i64 0, .int .i64 0, .int .i64 0, .int .i64 0, .int .i64 0, .int .i64 0, .int .i64 0, .int .i64 0, .int .i64 0, .int .i64 0, .int .i64 0, .int .i64 0, .int .i64 0, .int .i64 0] 28)) w.heap.size (fun _ => 0) := by
  refine FunAt.congr (f := fun _ => .int .i64 0) (heap_alloc_new w _) fun i _ => ?_
  show Value.int .i64 (wrap64 0) = _
  rw [wrap64_zero]

set_option maxRecDepth 100000 in
set_option maxHeartbeats 8000000 in
theorem tfair_any (q : Int) (fs bs : List Int) (a ab : Option Addr) (nf cf nb cb : Nat) (w : World) (hR : Rd .i64 w a fs) (hnf : fs.length = nf) (hmf : nf ≤ maxLen) (hRb : Rd .i64 w ab bs) (hnb : bs.length = nb) (hmb : nb ≤ maxLen) :
    Calls Try.prog 4 #[.int .i64 q, .slice a nf cf, .slice ab nb cb] w fun e w' => e = .returned (.bool true) ∧ Below w.heap.size w w' := by
  by_cases hq : q < 1 ∨ 10000 < q
  · have hnew := pnew_bad q w hq
    clear hR hnf hmf hRb hnb hmb hq
    go_enter Try.func4, Try.ntmps4
    go_wp2_with (go_at_call 5; refine hnew.mono ?_; rintro e w1 ⟨rfl, rfl⟩)
    go_ret
    exact ⟨rfl, Below.refl _ w⟩
  · have hq1 : 1 ≤ q := by omega
    have hq2 : q ≤ 10000 := by omega
    have hnew := pnew_good q w hq1 hq2
    have HR := hid hR
    have HNF := hid hnf
    have HRB := hid hRb
    have HNB := hid hnb
    have hmf' : nf ≤ 9223372036854775807 := by unfold maxLen at hmf; omega
    have hmb' : nb ≤ 9223372036854775807 := by unfold maxLen at hmb; omega
    clear hR hnf hmf hRb hnb hmb hq
    go_enter Try.func4, Try.ntmps4
    go_upto_block 0 with (go_at_call 5; refine hnew.mono ?_; rintro e w1 ⟨rfl, hP1, hb1⟩)
    have hr1 : w.heap.size < w1.heap.size := FunAt.lt hP1
    obtain ⟨r1, er1⟩ : ∃ r1, r1 = w.heap.size := ⟨_, rfl⟩
    have hrw : w.heap.size ≤ r1 := by omega
    have hrw1 : r1 < w1.heap.size := by omega
    rw [← er1] at hP1
    rw [show (Value.pointer (some ⟨w.heap.size, 0, none⟩)) = .pointer (some ⟨r1, 0, none⟩) by rw [er1]]
    clear hnew er1
    have HP1 := hid hP1
    clear hP1
    go_cut [9, 10, 11] from 29 (fun v g _ wx => ∃ n : Nat, n ≤ 16 ∧ g = .int .i64 (maxTo fs n) ∧ OwnU wx w1.heap.size v (usF fs n) ∧ Hid (FitsTo fs n) ∧ Below w1.heap.size w1 wx)
    case first =>
      as_aux_lemma =>
        go_wp2_with fail
        go_loopw [9, 10, 11] (fun v g i wr => ∃ k : Nat, k ≤ nf ∧ k ≤ 16 ∧ i = .int .i64 k ∧ g = .int .i64 (maxTo fs k) ∧ OwnU wr w1.heap.size v (usF fs k) ∧ Hid (FitsTo fs k) ∧ Below w1.heap.size w1 wr) (fun _ _ i _ => nf - (intOf i).toNat)
        case atStart => exact ⟨0, by omega, by omega, rfl, rfl, World.ownsRow_nil _ _ _ _, fun i hi => absurd hi (Nat.not_lt_zero _), Below.refl _ w1⟩
        case round =>
          as_aux_lemma =>
            obtain ⟨k, hk, hk16, rfl, rfl, hO, HF, hb⟩ := hrel
            by_cases hlt : k < nf ∧ k < 16
            · obtain ⟨hlt1, hlt2⟩ := hlt
              have xk : decide ((k : Int) < 16) = true := decide_eq_true (by omega)
              obtain ⟨bb, o, rfl, hC⟩ := HR.out.at (i := k) (by rw [HNF.out]; exact hlt1)
              have c0 := hC k (by rw [HNF.out]; exact hlt1)
              have hbW : Below w.heap.size w wr := hb1.trans (hb.mono hb1.size)
              have c0 := cellT hbW c0
              have hmx : maxTo fs (k + 1) = if maxTo fs k < fs.getD k 0 then fs.getD k 0 else maxTo fs k := rfl
              have hus := usF_succ fs k
              have hbM := maxTo_le HF.out
              have HN : Hid (1 ≤ fs.getD k 0 ∧ fs.getD k 0 ≤ 10000 → FitsTo fs (k + 1)) := fun h i hi => by
                by_cases e : i = k
                · rw [e]; exact h
                · exact HF.out i (by omega)
              have hlen : (usF fs k).length < 1000 := by rw [usF_length]; omega
              obtain ⟨F, eF⟩ : ∃ F, F = fs.getD k 0 := ⟨_, rfl⟩
              rw [← eF] at c0 hmx hus HN
              have HMX := hid hmx
              have HUS := hid hus
              have HLEN := hid hlen
              obtain ⟨M, eM⟩ : ∃ M, M = maxTo fs k := ⟨_, rfl⟩
              rw [← eM] at HMX hbM ⊢
              obtain ⟨hM0, hM1⟩ := hbM
              clear hC eF hmx hus hlen eM
              by_cases g0 : F < 1
              · have x0 : decide (F < 1) = true := decide_eq_true g0
                clear g0
                go_wp2_with fail
                go_ret
                exact ⟨rfl, hbW⟩
              · have x0 : decide (F < 1) = false := decide_eq_false g0
                by_cases g1 : 10000 < F
                · have x1 : decide (10000 < F) = true := decide_eq_true g1
                  clear g0 g1
                  go_wp2_with fail
                  go_ret
                  exact ⟨rfl, hbW⟩
                · have x1 : decide (10000 < F) = false := decide_eq_false g1
                  have HGo := hid (HN.out ⟨by omega, by omega⟩)
                  have HO := hid hO
                  clear g0 g1 hO
                  go_wp2_with (at_builtin; refine wpList_pushU w1.heap.size w1 ⟨(k : Int) + 1, 1000000, F⟩ HO.out rfl _ _ rfl rfl rfl HLEN.out hb hb.size ?_; intro v' w' ho' hb')
                  rw [← HUS.out] at ho'
                  go_roundw
                  case rel => exact ⟨k + 1, by omega, by omega, by go_num, by rw [HMX.out], ho', HGo, hb'⟩
                  case measure => simp [intOf]; omega
            · by_cases hlt1 : k < nf
              · have xk : decide ((k : Int) < 16) = false := decide_eq_false (by omega)
                clear hlt
                go_wp2_with fail
                go_meet
                case rel => exact ⟨k, hk16, rfl, hO, HF, hb⟩
              · have xk : decide (k < nf) = false := decide_eq_false hlt1
                clear hlt
                go_wp2_with fail
                go_meet
                case rel => exact ⟨k, hk16, rfl, hO, HF, hb⟩
    case rest =>
      as_aux_lemma =>
        obtain ⟨n, hn16, rfl, hO, HF, hb⟩ := hcut
        obtain ⟨a1, c1, rfl, -, -⟩ := hO.shape
        rw [usF_length] at hO ⊢
        have hM := maxTo_le HF.out
        have hge := maxTo_ge fs n
        obtain ⟨M, eM⟩ : ∃ M, M = maxTo fs n := ⟨_, rfl⟩
        rw [← eM] at hM hge ⊢
        have HGE := hid hge
        obtain ⟨hM0, hM1⟩ := hM
        have hbW : Below w.heap.size w wc := hb1.trans (hb.mono hb1.size)
        have hPr : PTurn wc r1 q TSt.new.last TSt.new.opn TSt.new.cr := (hb.block r1 hrw1).trans HP1.out
        have hG0 := gv_new wc
        obtain ⟨W, eW⟩ : ∃ W, W = wc.alloc (.cells #[.int .i64 0, .int .i64 0, .int .i64 0, .int .i64 0, .int .i64 0, .int .i64 0, .int .i64 0, .int .i64 0, .int .i64 0, .int .i64 0, .int .i64 0, .int .i64 0, .int .i64 0, .int .i64 0, .int .i64 0, .int .i64 0, .int .i64 0] 28) := ⟨_, rfl⟩
        have hbA : Below wc.heap.size wc W := by rw [eW]; exact (Below.refl _ wc).alloc (Nat.le_refl _) _
        rw [← eW] at hG0
        have hPW : PTurn W r1 q TSt.new.last TSt.new.opn TSt.new.cr := FunAt.below hPr hbA
        have hOW := hO.below hbA
        have hBW : Below w.heap.size w W := hbW.trans (hbA.mono hbW.size)
        have hgr : r1 ≠ wc.heap.size := by have := FunAt.lt hPr; omega
        have hgo : ∀ g, (Value.slice a1 n c1).ownBlock = some g → g ≠ wc.heap.size ∧ g ≠ r1 := fun g hg => by
          have := hO.lt g hg
          omega
        have hgw : w.heap.size ≤ wc.heap.size := hbW.size
        have HGO := hid hgo
        have HFT := hid (FairT.start (q := q) hn16 HF.out)
        clear hO hPr hbW hge eM hgo hbA
        go_wp2_with fail
        rw [← eW]
        clear eW
        generalize wc.heap.size = gv at *
        go_loopw [13] (fun i wr => ∃ (k : Nat) (G : Nat → Int) (t : TSt), k ≤ nb ∧ i = .int .i64 k ∧ PTurn wr r1 q t.last t.opn t.cr ∧ OwnU wr w1.heap.size (.slice a1 n c1) (usF fs n) ∧ GvAt wr gv G ∧ Hid (FairT q fs n G t) ∧ Below w.heap.size w wr) (fun i _ => nb - (intOf i).toNat)
        case atStart => exact ⟨0, _, _, by omega, rfl, hPW, hOW, hG0, HFT, hBW⟩
        case round =>
          as_aux_lemma =>
            clear hPW hOW hG0 hBW HFT
            obtain ⟨w2, rfl⟩ : ∃ x, x = wr := ⟨_, rfl⟩
            obtain ⟨k, G, t, hk, rfl, hP, hO, hG, HFT, hB⟩ := hrel
            by_cases hlt : k < nb
            · obtain ⟨bb, o, rfl, hC⟩ := HRB.out.at (i := k) (by rw [HNB.out]; exact hlt)
              have c0 := cellT hB (hC k (by rw [HNB.out]; exact hlt))
              obtain ⟨z, ez⟩ : ∃ z, z = bs.getD k 0 := ⟨_, rfl⟩
              rw [← ez] at c0
              have hz := and63 z
              obtain ⟨N, eN⟩ : ∃ N : Nat, z % 64 = (N : Int) := ⟨(z % 64).toNat, by omega⟩
              have hN : N ≤ 63 := by omega
              rw [eN] at hz
              obtain ⟨f1, f2, f3, f4, f5⟩ := fair_next ⟨hq1, hq2⟩ hn16 HF.out hN HFT.out
              have hsl := pslot_any t (usF fs n) (N : Int) q n c1 r1 a1 w2 HFT.out.ok ⟨hq1, hq2⟩ hO.usr (usF_length fs n) (by unfold maxLen; omega) hP
              rw [f1] at hsl
              generalize t.says q (usF fs n) (N : Int) = L at *
              generalize t.next q (usF fs n) (N : Int) = t2 at *
              have HL := hid f2
              have HF3 := hid f3
              have HF4 := hid f4
              have HFT2 := hid f5
              have xN : ((N : Int) != (N : Int)) = false := by simp
              have HB := hid hB
              have HG := hid hG
              have HO := hid hO
              clear hC ez eN f1 f2 f3 f4 f5 hP hB hG hO HFT
              go_wp2_with (go_at_call 6; refine hsl.mono ?_; rintro e w3 ⟨v2, rfl, hO2, hP2, hK2⟩; obtain ⟨a2, c2, rfl, -, -⟩ := hO2.shape; rw [HL.out] at hO2; rw [HL.out])
              have hB3 : Below w.heap.size w w3 := HB.out.trans (hK2.below HB.out.size (fun x hx => by obtain rfl : x = r1 := (by simpa using hx); exact hrw))
              have hG3 : GvAt w3 gv G := FunAt.kept HG.out hK2 (by simpa using hgr.symm)
              have hO3 : OwnU w3 w1.heap.size (.slice a1 n c1) (usF fs n) := HO.out.kept hK2 (fun g hg => by simpa using (HGO.out g hg).2)
              have hO2g : ∀ g, (Value.slice a2 N c2).ownBlock = some g → g ≠ gv := fun g hg => by
                have h1 := (hO2.lt g hg).1
                have h2 := FunAt.lt HG.out
                omega
              have hgs : gv < w3.heap.size := FunAt.lt hG3
              have hG3 : GvAt w3 gv (gTo G (byF UsM.fit (usF fs n)) L 0) := by rw [gTo_zero]; exact hG3
              have HB3 := hid hB3
              have HO2 := hid hO2
              have HO3 := hid hO3
              have HP2 := hid hP2
              have HOG := hid hO2g
              clear HB HG HO hK2 hB3 hO2 hO3 hP2 hO2g hsl
              go_loopw [17] (fun i wq => ∃ j : Nat, j ≤ N ∧ i = .int .i64 j ∧ GvAt wq gv (gTo G (byF UsM.fit (usF fs n)) L j) ∧ Kept [gv] w3 wq) (fun i _ => N - (intOf i).toNat)
              case atStart => exact ⟨0, by omega, rfl, hG3, Kept.refl _ w3⟩
              case round =>
                as_aux_lemma =>
                  clear hG3
                  obtain ⟨w4, rfl⟩ : ∃ x, x = wr := ⟨_, rfl⟩
                  obtain ⟨j, hj, rfl, hG4, hK4⟩ := hrel
                  by_cases hjN : j < N
                  · have hjl : j < L.length := by rw [HL.out]; exact hjN
                    have hOL : OwnI w4 w2.heap.size (.slice a2 N c2) L := HO2.out.keptF hK4 (fun g hg => by simpa using HOG.out g hg)
                    obtain ⟨b2, o2, rfl, hC2⟩ := hOL.rd.at (i := j) hjl
                    have q0 := hC2 j hjl
                    have hmem : L.getD j 0 ∈ L := by
                      have e : L.getD j 0 = L[j] := by simp [List.getD, hjl]
                      rw [e]; exact List.getElem_mem hjl
                    by_cases hn0 : n = 0
                    · have hx0 := HF3.out hn0 _ hmem
                      rw [hx0] at q0
                      have xn : ((n : Int) == 0) = true := by rw [hn0]; rfl
                      have hGn : gTo G (byF UsM.fit (usF fs n)) L (j + 1) = gTo G (byF UsM.fit (usF fs n)) L j := by
                        rw [gTo_succ G _ hjl (x := 0) (by rw [hx0]; rfl)]
                        funext a
                        by_cases ea : a = 0
                        · rw [ea, upd_at, byF_us_out UsM.fit (.inl rfl)]; omega
                        · rw [upd_ne _ _ ea]
                      have HGn : Hid (GvAt w4 gv (gTo G (byF UsM.fit (usF fs n)) L (j + 1))) := by rw [hGn]; exact hG4
                      clear hx0 hmem hOL hC2 hjl hG4 hGn hn0
                      go_wp2_with fail
                      go_roundw
                      case rel => exact ⟨j + 1, by omega, by go_num, HGn.out, hK4⟩
                      case measure => simp [intOf]; omega
                    · obtain ⟨hx1, hx2⟩ := HF4.out (by omega) _ hmem
                      obtain ⟨Y, eY⟩ : ∃ Y : Nat, L.getD j 0 = (Y : Int) + 1 := ⟨(L.getD j 0 - 1).toNat, by omega⟩
                      have hYn : Y < n := by omega
                      have xn : ((n : Int) == 0) = false := beq_false_of_ne (by omega)
                      have hB4 : Below w.heap.size w w4 := HB3.out.trans (hK4.below HB3.out.size (fun x hx => by obtain rfl : x = gv := (by simpa using hx); exact hgw))
                      have hYf : Y < fs.length := by
                        have h1 := HF.out Y hYn
                        rcases Nat.lt_or_ge Y fs.length with h | h
                        · exact h
                        · have : fs.getD Y 0 = 0 := by simp [List.getD, List.getElem?_eq_none h]
                          omega
                      obtain ⟨bf, of, rfl, hCf⟩ := HR.out.at (i := Y) hYf
                      have qf := cellT hB4 (hCf Y hYf)
                      have hYnf : Y < nf := by rw [← HNF.out]; exact hYf
                      have hgc := hG4.cell (a := Y + 1) (by omega)
                      have hgf := FunAt.free hG4 (Y + 1)
                      have hfit : byF UsM.fit (usF fs n) (Y + 1) = fs.getD Y 0 := by
                        rw [byF_us UsM.fit hn16 HF.out (by omega) (by omega)]
                        show fs.getD (Y + 1 - 1) 0 = _
                        rw [Nat.add_sub_cancel]
                      have hGn := hG4.set (Y + 1) (gTo G (byF UsM.fit (usF fs n)) L j (Y + 1) + byF UsM.fit (usF fs n) (Y + 1)) _ (wrap_step _ _)
                      rw [← gTo_succ G _ hjl (x := Y + 1) (by rw [eY]; rfl), hfit] at hGn
                      rw [eY] at q0 hx1 hx2
                      obtain ⟨F, eF⟩ : ∃ F, F = fs.getD Y 0 := ⟨_, rfl⟩
                      rw [← eF] at qf hGn
                      obtain ⟨y, ey⟩ : ∃ y, y = wrap64 (gTo G (byF UsM.fit (usF fs n)) L j (Y + 1)) := ⟨_, rfl⟩
                      rw [← ey] at hgc hGn
                      have HGn := hid hGn
                      have xl1 : decide ((Y : Int) + 1 < 1) = false := decide_eq_false (by omega)
                      have xl2 : decide ((n : Int) < (Y : Int) + 1) = false := decide_eq_false (by omega)
                      have y0 : (0 : Int) ≤ (Y : Int) + 1 := by omega
                      have y1 : (Y : Int) + 1 < 17 := by omega
                      have hKn : Kept [gv] w3 (w4.setCell ⟨gv, Y + 1, none⟩ (.int .i64 (wrap64 (y + F)))) := hK4.setCell (by simp) _
                      have HKn := hid hKn
                      clear hmem hOL hC2 hCf hYf hfit hG4 hGn eF ey hjl eY hx1 hx2 hKn hK4 hB4
                      go_upto_region 29 with fail
                      go_big_region
                      go_wp2_with fail
                      go_roundw
                      case rel => exact ⟨j + 1, by omega, by go_num, HGn.out, HKn.out.drew⟩
                      case measure => simp [intOf]; omega
                  · have ej : j = N := by omega
                    subst ej
                    have hG5 := hG4
                    rw [← HL.out, gTo_all] at hG5
                    have hB5 : Below w.heap.size w w4 := HB3.out.trans (hK4.below HB3.out.size (fun x hx => by obtain rfl : x = gv := (by simpa using hx); exact hgw))
                    have hP5 : PTurn w4 r1 q t2.last t2.opn t2.cr := FunAt.kept HP2.out hK4 (by simpa using hgr)
                    have hO5 : OwnU w4 w1.heap.size (.slice a1 n c1) (usF fs n) := HO3.out.kept hK4 (fun g hg => by simpa using (HGO.out g hg).1)
                    generalize (fun a => G a + totM (byF UsM.fit (usF fs n)) L a) = G2 at hG5 HFT2
                    have HB5 := hid hB5
                    have HP5 := hid hP5
                    have HO5 := hid hO5
                    have HG5 := hid hG5
                    clear hG4 hK4 hjN HB3 HP2 HO3 HO2 HOG hG5 hB5 hP5 hO5
                    go_wp2_with fail
                    go_loopw [18] (fun i wz => ∃ j : Nat, 1 ≤ j ∧ j ≤ n + 1 ∧ i = .int .i64 j ∧ Below w4.heap.size w4 wz) (fun i _ => n + 1 - (intOf i).toNat)
                    case atStart => exact ⟨1, by omega, by omega, rfl, Below.refl _ w4⟩
                    case round =>
                      as_aux_lemma =>
                        obtain ⟨w5, rfl⟩ : ∃ x, x = wr := ⟨_, rfl⟩
                        obtain ⟨A, hA1, hA2, rfl, hb5⟩ := hrel
                        by_cases hAn : A ≤ n
                        · have xA : decide (A ≤ n) = true := decide_eq_true hAn
                          have hFS := HFT2.out.s (by omega)
                          obtain ⟨k1, k2⟩ := hFS.credit hq1 (fits16_us hn16 HF.out) hA1 hAn
                          have hcr := fun (wz : World) (hz : Below w4.heap.size w4 wz) => pcredit_any (A : Int) q r1 t2.last t2.opn t2.cr wz (FunAt.below HP5.out hz)
                          have e0 : credM t2.cr (A : Int) = t2.cr A := by unfold credM; rw [if_pos (by omega), Int.toNat_natCast]
                          rw [e0] at hcr
                          have HNR : Hid (∀ m : Nat, 1 ≤ m → m ≤ n → G2 A - G2 m ≤ 2 * q + M ∧ G2 m - G2 A ≤ 2 * q + M) := fun m m1 m2 => by
                            have hg : ∀ a, 1 ≤ a → a ≤ n → byF UsM.fit (usF fs n) a ≤ M := fun a a1 a2 => by
                              rw [byF_us UsM.fit hn16 HF.out a1 a2]
                              exact HGE.out (a - 1) (by omega)
                            exact ⟨hFS.near hq1 hg hA1 hAn m1 m2, hFS.near hq1 hg m1 m2 hA1 hAn⟩
                          have x1 : decide (t2.cr A < 0) = false := decide_eq_false (by omega)
                          have x2 : decide (q + 10000 ≤ t2.cr A) = false := decide_eq_false (by omega)
                          clear e0 hFS k1 k2
                          generalize t2.cr A = cc at *
                          go_wp2_with (go_at_call 9; refine (hcr _ hb5).mono ?_; rintro e w6 ⟨rfl, rfl⟩)
                          go_loopw [19] (fun i wy => ∃ m : Nat, 1 ≤ m ∧ m ≤ n + 1 ∧ i = .int .i64 m ∧ Below w4.heap.size w4 wy) (fun i _ => n + 1 - (intOf i).toNat)
                          case atStart => exact ⟨1, by omega, by omega, rfl, hb5⟩
                          case round =>
                            as_aux_lemma =>
                              obtain ⟨w7, rfl⟩ : ∃ x, x = wr := ⟨_, rfl⟩
                              obtain ⟨m, hm1, hm2, rfl, hb7⟩ := hrel
                              by_cases hmn : m ≤ n
                              · have xm : decide (m ≤ n) = true := decide_eq_true hmn
                                have hG7 : GvAt w7 gv G2 := FunAt.below HG5.out hb7
                                have gA := hG7.cell (a := A) (by omega)
                                have gm := hG7.cell (a := m) (by omega)
                                obtain ⟨n1, n2⟩ := HNR.out m hm1 hmn
                                have hd := wrap_diff (g := G2 A) (h := G2 m) rfl (by omega)
                                have xd : decide (2 * q + M < wrap64 (wrap64 (G2 A) - wrap64 (G2 m))) = false := by rw [hd]; exact decide_eq_false (by omega)
                                have yA0 : (0 : Int) ≤ (A : Int) := by omega
                                have yA1 : (A : Int) < 17 := by omega
                                have ym0 : (0 : Int) ≤ (m : Int) := by omega
                                have ym1 : (m : Int) < 17 := by omega
                                generalize wrap64 (G2 A) = ya at *
                                generalize wrap64 (G2 m) = ym at *
                                clear hd n1 n2 hG7
                                go_upto_region 38 with fail
                                go_region
                                go_wp2_with fail
                                go_roundw
                                case rel => exact ⟨m + 1, by omega, by omega, by go_num, hb7.drew⟩
                                case measure => simp [intOf]; omega
                              · have xm : decide (m ≤ n) = false := decide_eq_false hmn
                                clear hmn
                                go_wp2_with fail
                                go_roundw
                                case rel => exact ⟨A + 1, by omega, by omega, by go_num, hb7⟩
                                case measure => simp [intOf]; omega
                        · have xA : decide (A ≤ n) = false := decide_eq_false hAn
                          clear hAn
                          go_wp2_with fail
                          go_roundw
                          case rel => exact ⟨k + 1, G2, t2, by omega, by go_num, FunAt.below HP5.out hb5, HO5.out.below hb5, FunAt.below HG5.out hb5, HFT2, HB5.out.trans (hb5.mono HB5.out.size)⟩
                          case measure => simp [intOf]; omega
            · have e : k = nb := by omega
              subst e
              clear hlt
              go_wp2_with fail
              go_ret
              exact ⟨rfl, hB⟩
end Go.Proofs.Ytmdfjhnibhmdkaf
