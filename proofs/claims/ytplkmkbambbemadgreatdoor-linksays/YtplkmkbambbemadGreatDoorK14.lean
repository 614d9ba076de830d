import Derived.Test.YtplkmkbambbemadGreatDoorK07
import Derived.Test.YtplkmkbambbemadGreatDoorK13
import Derived.Test.YtplkmkbambbemadGreatDoorK02
import Derived.Test.YtplkmkbambbemadGreatDoorK01
import Derived.Test.YtplkmkbambbemadGreatDoorK11
import Derived.Test.YtplkmkbambbemadGreatDoorK12
import Derived.Deep.Cut
import Derived.Deep.OwnRows
namespace Go.Proofs.YtplkmkbambbemadGreatDoor
open Go.ChangeShapes Go.WideShapes Go.ChangeAt Go.RowKit
/-- What comes of what is heard: the sums, as they would be. -/
def nextM (s xs : List Int) (v : Int) : List Int := gathTo s (pickTo s.length v.toNat xs.length) xs xs.length
def tellOk (xs : List Int) (v : Int) : Bool := softOk xs && decide (xs.length ≤ 4096) && verOk v
def addErr (s xs : List Int) (v : Int) : Int := if tellOk xs v then (if softOk (nextM s xs v) then 0 else 2) else 1
def addM (s xs : List Int) (v : Int) : List Int := if tellOk xs v && softOk (nextM s xs v) then nextM s xs v else s
/-- The table of columns lies where it was laid. -/
def colTab : Array Value := #[.int .i64 0, .int .i64 4, .int .i64 2, .int .i64 6, .int .i64 1, .int .i64 5, .int .i64 3, .int .i64 7]
def Col (w : World) : Prop := ∃ T fr, w.heap[2]? = some (.cells colTab T fr)
theorem Col.lt {w : World} (h : Col w) : 2 < w.heap.size := by
  obtain ⟨T, fr, e⟩ := h
  rcases Nat.lt_or_ge 2 w.heap.size with h | h
  · exact h
  · rw [Array.getElem?_eq_none h] at e; cases e
theorem Col.below {w w' : World} {B : Nat} (h : Col w) (hb : Below B w w') (hB : 2 < B) : Col w' := by
  obtain ⟨T, fr, e⟩ := h
  exact ⟨T, fr, (hb.block _ hB).trans e⟩
theorem Col.later {w w' : World} (h : Col w) (hb : Below w.heap.size w w') : Col w' := h.below hb h.lt
theorem Col.kept {w w' : World} {S : List Nat} (h : Col w) (hk : Kept S w w') (hS : 2 ∉ S) : Col w' := by
  have hl := h.lt
  obtain ⟨T, fr, e⟩ := h
  exact ⟨T, fr, (hk.block _ hl hS).trans e⟩
theorem nextM_length (s xs : List Int) (v : Int) : (nextM s xs v).length = s.length := gathTo_length _ _ _ _
theorem OwnI.cellI {w : World} {B g N c : Nat} {L : List Int} (h : OwnI w B (.slice (some ⟨g, 0, none⟩) N c) L) {i : Nat} (hi : i < L.length) : w.cell? ⟨g, i, none⟩ = some (.int .i64 (L.getD i 0)) := by
  obtain ⟨b, off, e, hc⟩ := h.rd.at hi
  simp at e
  obtain ⟨rfl, rfl⟩ := e
  simpa using hc i hi
theorem OwnI.free {w : World} {B g N c : Nat} {L : List Int} (h : OwnI w B (.slice (some ⟨g, 0, none⟩) N c) L) (i : Nat) : w.frozen? ⟨g, i, none⟩ = false := by
  have e := h.len
  unfold OwnI at h
  rw [e] at h
  exact h.frozenAt i
theorem OwnI.set {w : World} {B g N c : Nat} {L : List Int} (h : OwnI w B (.slice (some ⟨g, 0, none⟩) N c) L) (i : Nat) (x : Int) : OwnI (w.setCell ⟨g, i, none⟩ (.int .i64 x)) B (.slice (some ⟨g, 0, none⟩) N c) (L.set i x) := by
  have e := h.len
  unfold OwnI at h ⊢
  rw [List.length_set, e, List.map_set]
  rw [e] at h
  exact (h.stored i _).1
theorem OwnI.kept {w w' : World} {B : Nat} {v : Value} {L : List Int} {S : List Nat} (h : OwnI w B v L) (hk : Kept S w w') (hs : ∀ g, v.ownBlock = some g → g ∉ S) : OwnI w' B v L := by
  refine ⟨h.1, ?_⟩
  rcases h.2 with h' | ⟨g, cap, cur, h1, h2, h3, h4⟩
  · exact .inl h'
  · have hlt : g < w.heap.size := by
      rcases Nat.lt_or_ge g w.heap.size with hl | hl
      · exact hl
      · rw [Array.getElem?_eq_none hl] at h3; cases h3
    exact .inr ⟨g, cap, cur, h1, h2, (hk.block g hlt (hs g (by rw [h1]; rfl))).trans h3, h4⟩
theorem PairsAt.cells {k : IntKind} {w : World} {a : Option Addr} {n : Nat} {A : Nat → Option Addr} {C : Nat → Nat} {X : Nat → List Int} {V : Nat → Int} (h : PairsAt k w a n A C X V) {i : Nat} (hi : i < n) :
    ∃ b off, a = some ⟨b, off, none⟩ ∧ w.cell? ⟨b, off + i * 2, none⟩ = some (.slice (A i) (X i).length (C i)) ∧ w.cell? ⟨b, off + i * 2 + 1, none⟩ = some (.int k (V i)) ∧ Rd k w (A i) (X i) ∧ (X i).length ≤ C i ∧ C i ≤ maxLen := by
  obtain ⟨b, off, e, hc⟩ := h (by omega)
  exact ⟨b, off, e, hc i hi⟩
theorem OwnI.shape1 {w : World} {B m : Nat} {v : Value} {L : List Int} (h : OwnI w B v L) (hl : L.length = m) (hm : 1 ≤ m) : ∃ g c, v = .slice (some ⟨g, 0, none⟩) m c ∧ m ≤ c ∧ c ≤ maxLen := by
  rcases h.2 with ⟨_, h0⟩ | ⟨g, cap, cur, h', _, _, h1, h2, _⟩
  · omega
  · exact ⟨g, cap, by rw [h', hl], by omega, h2⟩
theorem Kept.cellO {S : List Nat} {w w' : World} (h : Kept S w w') {p : Addr} {v : Value} (hc : w.cell? p = some v) (hp : p.block ∉ S) : w'.cell? p = some v := by
  have := h.block p.block (World.block_lt_of_cell? w _ hc) hp
  rw [← hc]
  simp only [World.cell?, this]
theorem pickTo_at {n v c j : Nat} (h : j < c) : (pickTo n v c).getD j 0 = pickM n v j := by simp [pickTo, List.getD, h]
/-- 'append([]int(nil), x...)' of one or more numbers. -/
theorem wpList_copyL {w : World} {ops : Array Oper} {rest : List Oper} {o : Oper} {a : Act} {Q : Exit → Act → World → Prop} (g n c : Nat) (L : List Int) (hn : L.length = n) (hn0 : 1 ≤ n) (hr : Rd .i64 w (some ⟨g, 0, none⟩) L) (hgd : o.guard = none) (s x : Operand)
    (ho : o.op = .call { callee := .builtin .append, args := #[s, x], argTypes := #[23, 23] }) (hs : a.eval s = .slice none 0 0) (hx : a.eval x = .slice (some ⟨g, 0, none⟩) n c) (hlen : n ≤ 4096)
    (h : ∀ v' w', OwnI w' w.heap.size v' L → Below w.heap.size w w' → wpList Tryz.prog ops Q rest (a.put o.dst v') w') : wpList Tryz.prog ops Q (o :: rest) a w := by
  obtain ⟨i0, hi, hz0, hz1, hz2⟩ := info_parts Tryz.info3
  have hne : L ≠ [] := by rintro rfl; simp at hn; omega
  obtain ⟨g', o', e', hc⟩ := hr hne
  simp at e'
  obtain ⟨rfl, rfl⟩ := e'
  refine wpList_append_own _ hgd s x 23 ho w.heap.size 3 i0 (.int .i64 0) 1 8 Tryz.underlying23 hi hz0 hz1 hz2 rfl (by decide) _ 0 [] hs (World.ownsRow_nil _ _ _ _) ⟨g, 0, none⟩ n c (L.map (Value.int .i64)) hx (by simp [hn]) ?_ ?_ ?_ ?_ (Nat.le_refl _) ?_
  · intro j u hj
    have hjl : j < L.length := by
      rcases Nat.lt_or_ge j L.length with h | h
      · exact h
      · rw [List.getElem?_eq_none (by simpa using h)] at hj; cases hj
    have e1 : (⟨g, 0, none⟩ : Addr).add j = ⟨g, 0 + j, none⟩ := by unfold Addr.add; split <;> simp_all
    rw [e1, hc j hjl]
    rw [List.getElem?_map, List.getElem?_eq_getElem hjl] at hj
    simp at hj
    rw [← hj]
    simp [List.getD, hjl]
  · intro u hu
    obtain ⟨z, _, rfl⟩ := List.mem_map.1 hu
    rfl
  · unfold maxLen; omega
  · omega
  · intro v' w' h1 h2 _
    refine h v' w' ?_ ((Below.refl _ _).grown h2 (Nat.le_refl _) (fun k hk => by cases hk))
    unfold OwnI
    rw [hn]
    simpa using h1
end Go.Proofs.YtplkmkbambbemadGreatDoor
namespace Go.Proofs.YtplkmkbambbemadGreatDoor
open Go.ChangeShapes Go.WideShapes Go.ChangeAt Go.RowKit
theorem Own.shapeL {w : World} {B m : Nat} {v : Value} {L : List Int} (h : Own w B v L) (hl : L.length = m) (hm : 1 ≤ m) : ∃ g c, v = .slice (some ⟨g, 0, none⟩) m c ∧ m ≤ c ∧ c ≤ maxLen := by
  rcases h.2 with ⟨_, h0⟩ | ⟨g, cap, cur, h', _, _, h1, h2, _⟩
  · omega
  · exact ⟨g, cap, by rw [h', hl], by omega, h2⟩
theorem Rd.getL {k : IntKind} {w : World} {b o : Nat} {l : List Int} (h : Rd k w (some ⟨b, o, none⟩) l) {j : Nat} (hj : j < l.length) : w.cell? ⟨b, o + j, none⟩ = some (.int k (l.getD j 0)) := by
  obtain ⟨b', o', e, hc⟩ := h.at hj
  cases e
  exact hc j hj
def bltP (g : Nat) (U C O : Nat) (B : Nat) (vo : Value) (NZ A : List Int) : Nat → (Nat → Value) → World → Prop
  | 0, σ, _ => σ 0 = vo
  | 1, σ, _ => σ 1 = .pointer (some ⟨g, 0 + 3, none⟩)
  | 2, σ, _ => σ 2 = .int .i64 (U : Int)
  | 3, σ, _ => σ 3 = .pointer (some ⟨g, 0 + 4, none⟩)
  | 4, σ, _ => σ 4 = .int .i64 (C : Int)
  | 5, σ, w => Own w B (σ 5) NZ
  | 6, σ, w => Own w B (σ 6) A
  | 7, σ, _ => σ 7 = .pointer (some ⟨g, 0 + 2, none⟩)
  | 8, σ, _ => σ 8 = .int .i64 (O : Int)
  | _, _, _ => True
theorem bltP_mono {g U C O B : Nat} {vo : Value} {NZ A : List Int} (j : Nat) (σ : Nat → Value) (w w' : World) (h : bltP g U C O B vo NZ A j σ w) (hg : w.grownBy w' none) : bltP g U C O B vo NZ A j σ w' := by
  match j, h with
  | 0, h => exact h
  | 1, h => exact h
  | 2, h => exact h
  | 3, h => exact h
  | 4, h => exact h
  | 5, h => exact Own.grow h hg (fun k e => by cases e)
  | 6, h => exact Own.grow h hg (fun k e => by cases e)
  | 7, h => exact h
  | 8, h => exact h
  | n + 9, _ => trivial
theorem OwnP.monoL {w : World} {B B' : Nat} {v : Value} {ps : List (Int × Int)} (h : OwnP w B v ps) (hB : B' ≤ B) : OwnP w B' v ps := OwnT.mono (T := 29) h hB
theorem map2L {f : Operand → Value} {x y : Operand} {p q : Value} (h1 : f x = p) (h2 : f y = q) : (#[x, y] : Array Operand).map f = #[p, q] := by simp [h1, h2]
theorem takeM_succ (L : List Int) (n v i : Nat) : takeM L (pickTo n v (i + 1)) = takeM L (pickTo n v i) ++ [L.getD (pickM n v i) 0] := by simp [takeM, pickTo, List.range_succ]
set_option maxRecDepth 100000 in
set_option maxHeartbeats 4000000 in
theorem built_any (S : Setg) (s : ByteArray) (v : Nat) (w : World) (hv : v ≤ 3) (hS : SetOk S s.size) :
    Calls Tryz.prog 34 #[.string s, S.val, .int .i64 v] w fun e w' => ∃ u, e = .returned u ∧ OwnP w' w.heap.size u (builtM S s v) ∧ Below w.heap.size w w' := by
  have hmix : Tryz.prog.follows .mixedOrders = true := by kernel_rfl
  obtain ⟨hby, hcd, hod, hsd, hct, hs0, hs1⟩ := hS
  have hsz : s.size ≤ 40 := by omega
  obtain ⟨z, ez⟩ : ∃ z, z = unpackTo s (8 * s.size) := ⟨_, rfl⟩
  obtain ⟨n0, en0⟩ : ∃ n0, n0 = 8 * s.size := ⟨_, rfl⟩
  have hz : z.length = n0 := by rw [ez, unpackTo_length, en0]
  have hn0 : n0 ≤ 320 := by omega
  have hzb : AllBits z := by
    rw [ez]
    intro x hx
    obtain ⟨i, -, rfl⟩ := List.mem_map.1 hx
    exact bitAt_bd s i
  have hwh := fun wz => whole_any s wz (by omega)
  rw [← ez] at hwh
  obtain ⟨M, eM⟩ : ∃ M, M = ksum z 3 := ⟨_, rfl⟩
  have hM : M.length = 24 := by rw [eM, ← kW3]; exact sumL_length _ _ _
  have hMb : AllBits M := by rw [eM]; exact (ksum_bitsL z 3).all
  have HM := hid eM
  obtain ⟨L, eL⟩ : ∃ L, L = codeL S (z ++ M) := ⟨_, rfl⟩
  have hLl : (L.length : Int) = codedN S s.size := by rw [eL]; exact codeL_length (n := s.size) (by rw [List.length_append, hz, hM, en0]) hcd (fun h => (hs1 h).1)
  have hLb : AllBits L := by rw [eL]; exact codeL_all (hzb.append hMb)
  have HG := hid (show builtM S s v = sentM (S.order.toNat / 2) (addTo (takeM L (pickTo L.length v S.count.toNat)) (noiseTo S.seed.toNat S.count.toNat) S.count.toNat) S.order.toNat (S.count.toNat / S.order.toNat) by
    unfold builtM coverM
    rw [pickedK_length]
    unfold pickedK sealM
    rw [← ez, ← eM, ← eL])
  have HL := hid eL
  have HLL := hid hLl
  obtain ⟨G, eG⟩ : ∃ G, G = builtM S s v := ⟨_, rfl⟩
  rw [← eG] at HG
  rw [← eG]
  clear eG eL hLl eM
  obtain ⟨cd, sz, od, sd, ct⟩ := S
  dsimp only at hcd hod hsd hct hs0 hs1 HG HLL
  have EN := hid en0
  clear ez en0 hby
  unfold Setg.val
  dsimp only
  have hb0 : Below w.heap.size w (w.alloc (.cells #[.int .i64 cd, .int .i64 sz, .int .i64 od, .int .i64 sd, .int .i64 ct] 55)) := (Below.refl _ w).alloc (Nat.le_refl _) _
  have hl0 : w.heap.size < (w.alloc (.cells #[.int .i64 cd, .int .i64 sz, .int .i64 od, .int .i64 sd, .int .i64 ct] 55)).heap.size := by simp
  have hcc : ∀ wz, Below (w.alloc (.cells #[.int .i64 cd, .int .i64 sz, .int .i64 od, .int .i64 sd, .int .i64 ct] 55)).heap.size (w.alloc (.cells #[.int .i64 cd, .int .i64 sz, .int .i64 od, .int .i64 sd, .int .i64 ct] 55)) wz →
      wz.cell? ⟨w.heap.size, 0, none⟩ = some (.int .i64 cd) ∧ wz.cell? ⟨w.heap.size, 1, none⟩ = some (.int .i64 sz) ∧ wz.cell? ⟨w.heap.size, 2, none⟩ = some (.int .i64 od) ∧ wz.cell? ⟨w.heap.size, 3, none⟩ = some (.int .i64 sd) ∧ wz.cell? ⟨w.heap.size, 4, none⟩ = some (.int .i64 ct) := by
    intro wz hz
    have hr := (hz.block _ hl0).trans (heap_alloc_new w _)
    refine ⟨?_, ?_, ?_, ?_, ?_⟩ <;> (rw [cell_of_row _ _ _ _ _ _ hr]; rfl)
  have HCC := hid hcc
  clear hcc
  go_enter Tryz.func34, Tryz.ntmps34
  go_wp2_with fail
  generalize w.alloc (.cells #[.int .i64 cd, .int .i64 sz, .int .i64 od, .int .i64 sd, .int .i64 ct] 55) = w0 at *
  refine (hwh _).mono ?_
  rintro e w1 ⟨v1, rfl, hO1, hB1⟩
  obtain ⟨a1, c1, rfl, -, -, hr1, -⟩ := hO1.slice hz
  go_wp2_with fail
  refine (rsum3 z M HM.out a1 n0 c1 w1 hr1 hzb.bits hz (by omega)).mono ?_
  rintro e w2 ⟨b2, o2, c2, rfl, hR2, hB2⟩
  have hO2 := hO1.below hB2
  have hB02 := hB1.trans (hB2.mono hB1.size)
  clear hwh hO1 hB1 hB2 hr1
  go_wp2_with (at_builtin; go_must (refine wpList_cat w0.heap.size w0 hO2 hR2 rfl _ _ rfl rfl c2 (by rw [hM]; rfl) (by rw [hM, hz]; omega) hB02 hB02.size ?_))
  intro v3 w3 hO3 hB3
  obtain ⟨a3, c3, rfl, -, -, hr3, -⟩ := hO3.slice (show (z ++ M).length = n0 + 24 by rw [List.length_append, hz, hM])
  have hzM := hzb.append hMb
  have hzl : (z ++ M).length = n0 + 24 := by rw [List.length_append, hz, hM]
  have H3 := hid (HCC.out w3 hB3)
  generalize z ++ M = zM at *
  clear hO2 hR2 hB02
  obtain ⟨C, rfl⟩ : ∃ C : Nat, ct = C := ⟨ct.toNat, by omega⟩
  obtain ⟨U, rfl⟩ : ∃ U : Nat, sd = U := ⟨sd.toNat, by omega⟩
  obtain ⟨O, rfl⟩ : ∃ O : Nat, od = O := ⟨od.toNat, by omega⟩
  have hC4 : C ≤ 4096 := by omega
  have hU : U < 2147483648 := by omega
  have HOD := hid hod
  have HCT := hid hct
  have HSZ := hid hsz
  have HN := hid (show 1 ≤ L.length ∧ L.length ≤ 4096 by
    have h := HLL.out
    unfold codedN at h
    dsimp only at h
    by_cases c0 : cd = 0
    · rw [if_pos c0] at h; omega
    · rw [if_neg c0] at h
      obtain ⟨m, hm, e⟩ := pow_of (hs1 (by omega)).1
      have : 2 ^ m ≤ 2 ^ 9 := Nat.pow_le_pow_right (by omega) hm
      have : 1 ≤ 2 ^ m := Nat.one_le_two_pow
      omega)
  clear hod hsd hct hsz
  cases hcd
  case' inl hcd =>
    subst hcd
    have k0 := H3.out.1
    have hL3 : L = codedTo zM (zM.length + 6) := HL.out
    have hco := rcoded_any zM a3 c3 w3 hr3 hzM.bits (by omega)
    rw [← hL3, hzl] at hco
    have HCO := hid hco
    clear hL3 hs1 hs0 hco
    go_wp2_with fail
    refine HCO.out.mono ?_
    clear HCO k0
  case' inr hcd =>
    subst hcd
    obtain ⟨hp, hle⟩ := hs1 rfl
    have hp3 := size_pow (S := ⟨1, sz, O, U, C⟩) hp
    obtain ⟨p1, p2, p3⟩ := hp3
    dsimp only at p1 p2
    obtain ⟨N, rfl⟩ : ∃ N : Nat, sz = N := ⟨sz.toNat, by omega⟩
    have hL3 : L = turnM (sizeL ⟨1, (N : Int), O, U, C⟩) (spreadM (N : Int).toNat (placesM (N : Int).toNat zM.length) zM zM.length) := by rw [HL.out]; unfold codeL; rw [if_neg (show ¬ ((1 : Int) = 0) by decide)]
    rw [Int.toNat_natCast] at hL3 p2
    have hN5 : N ≤ 512 := by
      have : 2 ^ sizeL ⟨1, (N : Int), O, U, C⟩ ≤ 2 ^ 9 := Nat.pow_le_pow_right (by omega) p3
      omega
    have hco := rhalved_any (sizeL ⟨1, (N : Int), O, U, C⟩) zM a3 N zM.length c3 w3 hr3 hzM rfl (by have := EN.out; omega) p2 hN5
    rw [← hL3, hzl] at hco
    have HCO := hid hco
    have k0 := H3.out.1
    have k1 := H3.out.2.1
    clear hL3 hs1 hs0 hco p1 p2 p3 hp hle hN5
    go_wp2_with fail
    refine HCO.out.mono ?_
    clear HCO k0 k1
  all_goals
    rintro e w4 ⟨v4, rfl, hO4, hB4⟩
    have hB04 := hB3.trans (hB4.mono hB3.size)
    obtain ⟨n, en⟩ : ∃ n, n = L.length := ⟨_, rfl⟩
    have hn1 : 1 ≤ n := by rw [en]; exact HN.out.1
    have hn4 : n ≤ 4096 := by rw [en]; exact HN.out.2
    have H4 := HCC.out w4 hB04
    obtain ⟨-, -, -, -, k4⟩ := H4
    obtain ⟨g4, c4, rfl, hc4, -⟩ := hO4.shapeL en.symm hn1
    have hr4 := hO4.rd
    have hpi := fun wz => rpicked_any n v C wz hn1 hn4 hv hC4
    have ENL := hid en
    clear hB4 hO3 en
    try clear hr3
    go_wp2_with fail
    refine (hpi _).mono ?_
    rintro e w5 ⟨u5, rfl, hO5, hB5⟩
    have hC1 : 1 ≤ C := by have h1 := HCT.out; have h2 := HOD.out; omega
    obtain ⟨g5, c5, rfl, hc5, -⟩ := hO5.shape1 (pickTo_length n v C) hC1
    have hr5 := hO5.rd
    have hr4' := hr4.below hB5
    have hB05 := hB04.trans (hB5.mono hB04.size)
    clear hpi hO4 hO5 hr4 hB5 hB04 k4
    go_wp2_with fail
    go_loopw [9, 10] (fun vo i wr => ∃ k : Nat, k ≤ C ∧ i = .int .i64 k ∧ Own wr w5.heap.size vo (takeM L (pickTo n v k)) ∧ Below w5.heap.size w5 wr) (fun _ i _ => C - (intOf i).toNat)
    case atStart => exact ⟨0, Nat.zero_le _, rfl, Own.nil _ _, Below.refl _ _⟩
    case round =>
      obtain ⟨k, hk, rfl, hown, hbel⟩ := hrel
      have HTL := hid (show (takeM L (pickTo n v k)).length = k by rw [takeM_length, pickTo_len])
      by_cases hlt : k < C
      · obtain ⟨q, eq⟩ : ∃ q, q = pickM n v k := ⟨_, rfl⟩
        have hq : q < n := by rw [eq]; exact pickM_lt hn1
        have q1 := (hr5.below hbel).getL (j := k) (by rw [pickTo_length]; exact hlt)
        rw [intsM_at, pickTo_at hlt, ← eq, Nat.zero_add] at q1
        have q2 := (hr4'.below hbel).getL (j := q) (by rw [← ENL.out]; exact hq)
        rw [Nat.zero_add] at q2
        obtain ⟨x, ex⟩ : ∃ x, x = L.getD q 0 := ⟨_, rfl⟩
        rw [← ex] at q2
        have HEX := hid (show takeM L (pickTo n v k) ++ [x] = takeM L (pickTo n v (k + 1)) by rw [takeM_succ, ex, eq])
        clear eq ex
        go_wp2_with (at_builtin; go_must (refine wpList_push w5.heap.size w5 x hown rfl _ _ rfl rfl rfl ?_ hbel hbel.size ?_))
        · rw [HTL.out]; omega
        · intro v' w6 hown' hbel'
          rw [HEX.out] at hown'
          clear hown hbel q1 q2
          go_wp2
          go_roundw
          case rel => exact ⟨k + 1, by omega, by go_num, hown', hbel'⟩
          case measure => simp [intOf]; omega
      · obtain rfl : k = C := by omega
        have hB06 := hB05.trans (hbel.mono hB05.size)
        obtain ⟨-, -, k2, k3, k4⟩ := HCC.out wr hB06
        have hxl : (takeM L (pickTo n v k)).length = k := HTL.out
        obtain ⟨a9, c9, rfl, -, -, hr9, -⟩ := hown.slice hxl
        have hxb := takeM_bits hLb (pickTo n v k)
        have HG2 := hid (show G = sentM (O / 2) (addTo (takeM L (pickTo n v k)) (noiseTo U k) k) O (k / O) by
          have h := HG.out
          simp only [Int.toNat_natCast] at h
          rw [ENL.out]
          exact h)
        generalize takeM L (pickTo n v k) = xs at *
        obtain ⟨NZ, eNZ⟩ : ∃ NZ, NZ = noiseTo U k := ⟨_, rfl⟩
        have hNl : NZ.length = k := by rw [eNZ, noiseTo_length]
        have hNb : Bits NZ := by
          rw [eNZ]
          intro j
          unfold noiseTo
          by_cases hj : j < k
          · have e : ((List.range k).map (noiseAt U)).getD j 0 = noiseAt U j := by simp [List.getD, hj]
            rw [e]
            exact b2i_bd _
          · have e : ((List.range k).map (noiseAt U)).getD j 0 = 0 := by simp [List.getD, hj]
            rw [e]
            omega
        have hno := fun wz => rnoise_any U k wz hU hC4
        rw [← eNZ] at hno HG2
        obtain ⟨A, eA⟩ : ∃ A, A = addTo xs NZ k := ⟨_, rfl⟩
        have hAl : A.length = k := by rw [eA, addTo_length]
        have hAb : AllBits A := by rw [eA]; exact addTo_all _ _ _
        have had := fun (wz : World) (b : Option Addr) (cb : Nat) (h1 : Rd .u8 wz a9 xs) (h2 : Rd .u8 wz b NZ) => added_any xs NZ a9 b c9 cb k wz h1 h2 hxb.bits hNb hNl (by omega) hC4
        rw [hxl] at had
        rw [← eA] at had HG2
        obtain ⟨h, hh, h1, h3⟩ : ∃ h, O = 2 * h ∧ 1 ≤ h ∧ h ≤ 3 := ⟨O / 2, by have := HOD.out; omega, by have := HOD.out; omega, by have := HOD.out; omega⟩
        have hm : k = k / O * O := by
          have h2 := HCT.out.2.2
          have h4 : k % O = 0 := by omega
          exact (Nat.div_mul_cancel (Nat.dvd_of_mod_eq_zero h4)).symm
        have hse := fun (wz : World) (b : Option Addr) (cb : Nat) (h0 : Rd .u8 wz b A) (hcb : k ≤ cb) => sent_any O h (k / O) A b k cb wz hh h1 h3 h0 hAl (by rw [hAl]; exact hm) hcb hC4 (fun x hx => by have := hAb x hx; omega)
        rw [show h = O / 2 by omega, ← HG2.out] at hse
        have HNL := hid hNl
        have HAL := hid hAl
        clear hm hh h1 h3 eNZ eA hxl hNl hAl HG
        go_upto_region 12 with fail
        have hcw : ∀ (wc : World), Below wr.heap.size wr wc → ∀ q v, wr.cell? q = some v → wc.cell? q = some v := fun wc hbc q v h => (hbc.cell (World.block_lt_of_cell? wr _ h)).trans h
        have hNE : Enters Tryz.prog 81 := enters_of Tryz.func81 (by kernel_rfl) rfl
        have hAE : Enters Tryz.prog 80 := enters_of Tryz.func80 (by kernel_rfl) rfl
        have hSE : Enters Tryz.prog 79 := enters_of Tryz.func79 (by kernel_rfl) rfl
        refine wp_mono (region_sig (Q := fun e a' w' => e = .normal ∧ ∃ y5 y6 u, a' = { tmps := (((setAll _ [(48, .slice a9 k c9), (49, .pointer (some ⟨w.heap.size, 0 + 3, none⟩)), (50, .int .i64 (U : Int)), (51, .pointer (some ⟨w.heap.size, 0 + 4, none⟩)), (52, .int .i64 (k : Int)), (53, y5), (54, y6), (55, .pointer (some ⟨w.heap.size, 0 + 2, none⟩)), (56, .int .i64 (O : Int))]).set 57 u).set 6 u).toArray, defers := [] } ∧ OwnP w' wr.heap.size u G ∧ Below wr.heap.size wr w') 11 9 [48, 49, 50, 51, 52, 53, 54, 55, 56]
          [[9], [4], [49], [4], [51], [50, 52], [48, 53], [4], [55]] [6, 2, 5, 4, 5, 6, 9, 8, 9] (bltP w.heap.size U k O wr.heap.size (.slice a9 k c9) NZ A) wr hmix rfl (by decide) rfl (by decide) (by kernel_rfl) (by kernel_rfl) (by kernel_rfl) (by kernel_rfl) (by kernel_rfl) (by kernel_rfl) (fun j hj σ σ' w0 he hp => by
            have e0 := he j (Or.inl rfl)
            have h9 : j = 0 ∨ j = 1 ∨ j = 2 ∨ j = 3 ∨ j = 4 ∨ j = 5 ∨ j = 6 ∨ j = 7 ∨ j = 8 := by omega
            rcases h9 with rfl | rfl | rfl | rfl | rfl | rfl | rfl | rfl | rfl
            · exact e0.symm.trans hp
            · exact e0.symm.trans hp
            · exact e0.symm.trans hp
            · exact e0.symm.trans hp
            · exact e0.symm.trans hp
            · show Own w0 _ (σ' 5) NZ
              rw [← e0]; exact hp
            · show Own w0 _ (σ' 6) A
              rw [← e0]; exact hp
            · exact e0.symm.trans hp
            · exact e0.symm.trans hp) bltP_mono (fun i' hi' σ ac wc hbc hp hr Q K hK => by
            have h9 : i' = 0 ∨ i' = 1 ∨ i' = 2 ∨ i' = 3 ∨ i' = 4 ∨ i' = 5 ∨ i' = 6 ∨ i' = 7 ∨ i' = 8 := by omega
            rcases h9 with rfl | rfl | rfl | rfl | rfl | rfl | rfl | rfl | rfl
            · exact op_value rfl rfl (run_moveQ wc rfl (hr 9 (by decide))) (hK _ wc (grownL wc) (fun σ' _ h => h))
            · exact op_value rfl rfl (run_fldSet3 wc rfl (hr 4 (by decide))) (hK _ wc (grownL wc) (fun σ' _ h => h))
            · exact op_value rfl rfl (run_loadI wc rfl ((hr 49 (by decide)).trans (hp 1 (by decide) (by kernel_rfl))) (hcw wc hbc _ _ k3)) (hK _ wc (grownL wc) (fun σ' _ h => h))
            · exact op_value rfl rfl (run_fldSet4 wc rfl (hr 4 (by decide))) (hK _ wc (grownL wc) (fun σ' _ h => h))
            · exact op_value rfl rfl (run_loadI wc rfl ((hr 51 (by decide)).trans (hp 3 (by decide) (by kernel_rfl))) (hcw wc hbc _ _ k4)) (hK _ wc (grownL wc) (fun σ' _ h => h))
            · refine op_callNL rfl rfl rfl hNE (by simp only [List.map_toArray, List.map_cons, List.map_nil]; rw [(hr 50 (by decide)).trans (hp 2 (by decide) (by kernel_rfl)), (hr 52 (by decide)).trans (hp 4 (by decide) (by kernel_rfl))]) (hno wc) fun e w' hr' => ?_
              obtain ⟨y, rfl, hy, hb⟩ := hr'
              exact ⟨_, rfl, hK _ w' ⟨hb.os, hb.tape, hb.output, hb.size, fun b hb' _ => hb.block b hb'⟩ (fun σ' _ h => by
                show Own w' _ (σ' 5) NZ
                rw [h]; exact hy.mono hbc.size)⟩
            · have hO5 : Own wc wr.heap.size (σ 5) NZ := hp 5 (by decide) (by kernel_rfl)
              obtain ⟨ay, cy, ey, -, -, hry, -⟩ := hO5.slice HNL.out
              refine op_callNL rfl rfl rfl hAE (by simp only [List.map_toArray, List.map_cons, List.map_nil]; rw [(hr 48 (by decide)).trans (hp 0 (by decide) (by kernel_rfl)), (hr 53 (by decide)).trans ey]) (had wc ay cy (hr9.below hbc) hry) fun e w' hr' => ?_
              obtain ⟨y, rfl, hy, hb⟩ := hr'
              exact ⟨_, rfl, hK _ w' ⟨hb.os, hb.tape, hb.output, hb.size, fun b hb' _ => hb.block b hb'⟩ (fun σ' _ h => by
                show Own w' _ (σ' 6) A
                rw [h]; exact hy.mono hbc.size)⟩
            · exact op_value rfl rfl (run_fldSet2 wc rfl (hr 4 (by decide))) (hK _ wc (grownL wc) (fun σ' _ h => h))
            · exact op_value rfl rfl (run_loadI wc rfl ((hr 55 (by decide)).trans (hp 7 (by decide) (by kernel_rfl))) (hcw wc hbc _ _ k2)) (hK _ wc (grownL wc) (fun σ' _ h => h)))
          (fun σ wc hbc hp => by
            have p0 : σ 0 = _ := hp 0 (by decide)
            have p1 : σ 1 = _ := hp 1 (by decide)
            have p2 : σ 2 = _ := hp 2 (by decide)
            have p3 : σ 3 = _ := hp 3 (by decide)
            have p4 : σ 4 = _ := hp 4 (by decide)
            have p6 : Own wc wr.heap.size (σ 6) A := hp 6 (by decide)
            have p7 : σ 7 = _ := hp 7 (by decide)
            have p8 : σ 8 = _ := hp 8 (by decide)
            obtain ⟨ay, cy, ey, hcy, -, hry, -⟩ := p6.slice HAL.out
            have etb : tbS [48, 49, 50, 51, 52, 53, 54, 55, 56] 9 σ = [(48, .slice a9 k c9), (49, .pointer (some ⟨w.heap.size, 0 + 3, none⟩)), (50, .int .i64 (U : Int)), (51, .pointer (some ⟨w.heap.size, 0 + 4, none⟩)), (52, .int .i64 (k : Int)), (53, σ 5), (54, .slice ay k cy), (55, .pointer (some ⟨w.heap.size, 0 + 2, none⟩)), (56, .int .i64 (O : Int))] := by
              show [(48, σ 0), (49, σ 1), (50, σ 2), (51, σ 3), (52, σ 4), (53, σ 5), (54, σ 6), (55, σ 7), (56, σ 8)] = _
              rw [p0, p1, p2, p3, p4, ey, p7, p8]
            rw [etb]
            refine op_callNL (us := #[.slice ay k cy, .int .i64 (O : Int)]) rfl rfl rfl hSE (map2L (eval_setAll 54 (show ([48, 49, 50, 51, 52, 53, 54, 55, 56] : List Nat).Nodup by decide) (by kernel_rfl)) (eval_setAll 56 (show ([48, 49, 50, 51, 52, 53, 54, 55, 56] : List Nat).Nodup by decide) (by kernel_rfl))) (hse wc ay cy hry hcy) fun e w' hr' => ?_
            obtain ⟨u, rfl, hu, hb⟩ := hr'
            refine ⟨u, rfl, op_value rfl rfl (run_assignL w' rfl (v := u) ?_) ⟨rfl, σ 5, .slice ay k cy, u, ?_, hu.monoL hbc.size, hbc.trans (hb.mono hbc.size)⟩⟩
            · exact Act.eval_put_same _ _ _ (by simp [setAll])
            · exact (congrArg (fun a => Act.put a (some 6) u) (put_list _ 57 u)).trans (put_list _ 6 u))) ?_
        rintro e a' w7 ⟨rfl, y5, y6, u, rfl, hOu, hB7⟩
        dsimp only [setAll, List.set, List.append_nil, List.cons_append, List.nil_append]
        have hBu := hB06.trans (hB7.mono hB06.size)
        have hBB := hb0.trans (hBu.mono hb0.size)
        have hOu' := hOu.monoL (Nat.le_trans (Nat.le_of_lt hl0) hB06.size)
        clear hse had hno hcw k2 k3 k4
        go_wp2_with fail
        go_ret
        exact ⟨_, rfl, hOu', hBB⟩
end Go.Proofs.YtplkmkbambbemadGreatDoor
namespace Go.Proofs.YtplkmkbambbemadGreatDoor
open Go.ChangeShapes Go.WideShapes Go.ChangeAt Go.RowKit
def earCells (S : Setg) (bytes : Int) (gs n c : Nat) : Array Value := #[.int .i64 S.code, .int .i64 S.size, .int .i64 S.order, .int .i64 S.seed, .int .i64 S.count, .int .i64 bytes, .slice (some ⟨gs, 0, none⟩) n c]
/-- An ear of the document's at g: its settings, bytes and sums. -/
def REar (w : World) (g : Nat) (S : Setg) (bytes : Int) (sums : List Int) : Prop := ∃ gs c, w.heap[g]? = some (.cells (earCells S bytes gs sums.length c) 119 (0, 0)) ∧ Rd .i64 w (some ⟨gs, 0, none⟩) sums ∧ gs < w.heap.size ∧ gs ≠ g ∧ sums.length ≤ c ∧ c ≤ maxLen
theorem REar.lt {w : World} {g : Nat} {S : Setg} {bytes : Int} {sums : List Int} (h : REar w g S bytes sums) : g < w.heap.size := by
  obtain ⟨gs, c, h, -⟩ := h
  exact (Array.getElem?_eq_some_iff.1 h).1
theorem run_loadSetL {ρ : Operand → Value} (w : World) {o : Oper} {x : Operand} {g s : Nat} {S : Setg} (ho : o.op = .load 55 x) (h : ρ x = .pointer (some ⟨g, s, none⟩)) (h0 : w.cell? ⟨g, s, none⟩ = some (.int .i64 S.code)) (h1 : w.cell? ⟨g, s + 1, none⟩ = some (.int .i64 S.size)) (h2 : w.cell? ⟨g, s + 2, none⟩ = some (.int .i64 S.order)) (h3 : w.cell? ⟨g, s + 3, none⟩ = some (.int .i64 S.seed)) (h4 : w.cell? ⟨g, s + 4, none⟩ = some (.int .i64 S.count)) : (execOp ρ o).run Tryz.prog w = .ok (.value S.val) w := by
  unfold execOp
  have hc : w.rangeAt g s [.int .i64 S.code, .int .i64 S.size, .int .i64 S.order, .int .i64 S.seed, .int .i64 S.count] := by
    intro j z hz
    match j, hz with
    | 0, hz => simp at hz; rw [← hz]; simpa using h0
    | 1, hz => simp at hz; rw [← hz]; simpa using h1
    | 2, hz => simp at hz; rw [← hz]; simpa using h2
    | 3, hz => simp at hz; rw [← hz]; simpa using h3
    | 4, hz => simp at hz; rw [← hz]; simpa using h4
  have hr := run_loadVar_mid w g s 55 _ _ hc Tryz.underlying55 rfl (by kernel_rfl)
  simp only [ho, h, Instr.loadAt, Instr.sureAddr, Sem.run_bind, Sem.run_pure, Result.andThen_ok, hr]
  rfl
theorem run_buildEar {ρ : Operand → Value} (w : World) {o : Oper} {x y z : Operand} {S : Setg} {b : Int} {g : Nat} {m c : Nat} (ho : o.op = .build 119 #[(0, x), (1, y), (2, z)]) (h : ρ x = S.val) (h' : ρ y = .int .i64 b) (h2 : ρ z = .slice (some ⟨g, 0, none⟩) m c) : (execOp ρ o).run Tryz.prog w = .ok (.value (.agg (earCells S b g m c))) w := by
  unfold Setg.val at h
  unfold execOp earCells
  simp only [ho]
  simp [go_sem, h, h', h2]
theorem run_boxEar {ρ : Operand → Value} (w : World) {o : Oper} {x : Operand} {S : Setg} {b : Int} {g m c : Nat} (ho : o.op = .box 119 x) (h : ρ x = .agg (earCells S b g m c)) : (execOp ρ o).run Tryz.prog w = .ok (.value (.pointer (some ⟨w.heap.size, 0, none⟩))) (w.alloc (.cells (earCells S b g m c) 119)) := by
  unfold earCells at *
  unfold execOp
  simp only [ho, h]
  simp [go_sem]
theorem ArrAt.rdL {k : IntKind} {T : TypeId} {w : World} {g : Nat} {L : List Int} (h : ArrAt k T w g L) : Rd k w (some ⟨g, 0, none⟩) L := fun _ => ⟨g, 0, rfl, fun j hj => by rw [Nat.zero_add]; exact h.cell hj⟩
theorem run_make_ints (n : Nat) (hn : n ≤ 4096) (w : World) : (Instr.makeSlice 23 (.int .i64 (n : Int)) (.int .i64 (n : Int))).run Tryz.prog w = .ok (.slice (some ⟨w.heap.size, 0, none⟩) n n) (w.alloc (.cells ((List.replicate n (0 : Int)).map (Value.int .i64)).toArray 3)) := by
  have h := run_make_row' (P := Tryz.prog) 23 3 (.int .i64 0) 8 Tryz.underlying23 Tryz.info3 rfl .i64 .i64 n (by omega) (by omega) w
  have e : madeCells #[Value.int .i64 0] n = ((List.replicate n (0 : Int)).map (Value.int .i64)).toArray := by
    apply Array.ext'
    have := toList_madeCells_one (Value.int .i64 0) n
    rw [this]
    simp
  rw [e] at h
  exact h
theorem run_makeI {ρ : Operand → Value} (w : World) {o : Oper} {x y : Operand} {n : Nat} (ho : o.op = .makeSlice 23 x y) (h : ρ x = .int .i64 (n : Int)) (h' : ρ y = .int .i64 (n : Int)) (hn : n ≤ 4096) : (execOp ρ o).run Tryz.prog w = .ok (.value (.slice (some ⟨w.heap.size, 0, none⟩) n n)) (w.alloc (.cells ((List.replicate n (0 : Int)).map (Value.int .i64)).toArray 3)) := by
  unfold execOp
  simp only [ho, h, h']
  simp [run_make_ints n hn w, Result.andThen]
def newP (S : Setg) (b : Int) (n B : Nat) : Nat → (Nat → Value) → World → Prop
  | 0, σ, _ => σ 0 = S.val
  | 1, σ, _ => σ 1 = .int .i64 b
  | 2, σ, _ => σ 2 = S.val
  | 3, σ, _ => σ 3 = .int .i64 b
  | 4, σ, _ => σ 4 = .int .i64 (n : Int)
  | 5, σ, w => ∃ g, B ≤ g ∧ σ 5 = .slice (some ⟨g, 0, none⟩) n n ∧ ArrAt .i64 3 w g (List.replicate n 0)
  | _, _, _ => True
theorem newP_mono {S : Setg} {b : Int} {n B : Nat} (j : Nat) (σ : Nat → Value) (w w' : World) (h : newP S b n B j σ w) (hg : w.grownBy w' none) : newP S b n B j σ w' := by
  match j, h with
  | 0, h => exact h
  | 1, h => exact h
  | 2, h => exact h
  | 3, h => exact h
  | 4, h => exact h
  | 5, ⟨g, h1, h2, h3⟩ => exact ⟨g, h1, h2, (hg.block g (Array.getElem?_eq_some_iff.1 h3).1 (fun e => by cases e)).trans h3⟩
  | n + 6, _ => trivial
set_option maxRecDepth 100000 in
set_option maxHeartbeats 4000000 in
theorem rnewear_any (S : Setg) (bytes : Int) (w : World) (hS : SetOk S bytes) :
    Calls Tryz.prog 31 #[S.val, .int .i64 bytes] w fun e w' => ∃ g, e = .returned (.pointer (some ⟨g, 0, none⟩)) ∧ w.heap.size ≤ g ∧ REar w' g S bytes (List.replicate (codedN S bytes).toNat 0) ∧ Below w.heap.size w w' := by
  have hmix : Tryz.prog.follows .mixedOrders = true := by kernel_rfl
  have hsi := fun wz => rsize_any S bytes wz hS.few
  have hN : 0 ≤ codedN S bytes ∧ codedN S bytes ≤ 1050 := by
    unfold codedN
    obtain ⟨hby, hcd, hod, hsd, hct, hs0, hs1⟩ := hS
    by_cases c0 : S.code = 0
    · rw [if_pos c0]; omega
    · rw [if_neg c0]
      obtain ⟨m, hm, e⟩ := pow_of (hs1 (by omega)).1
      have : 2 ^ m ≤ 2 ^ 9 := Nat.pow_le_pow_right (by omega) hm
      omega
  obtain ⟨n, en⟩ : ∃ n : Nat, codedN S bytes = n := ⟨(codedN S bytes).toNat, by omega⟩
  rw [en] at hsi hN
  rw [en, Int.toNat_natCast]
  clear en hS
  have hn4 : n ≤ 4096 := by omega
  have hb0 : Below w.heap.size w (w.alloc (.cells #[.int .i64 S.code, .int .i64 S.size, .int .i64 S.order, .int .i64 S.seed, .int .i64 S.count] 55)) := (Below.refl _ w).alloc (Nat.le_refl _) _
  have hl0 : w.heap.size < (w.alloc (.cells #[.int .i64 S.code, .int .i64 S.size, .int .i64 S.order, .int .i64 S.seed, .int .i64 S.count] 55)).heap.size := by simp
  have hcc : ∀ wz, Below (w.alloc (.cells #[.int .i64 S.code, .int .i64 S.size, .int .i64 S.order, .int .i64 S.seed, .int .i64 S.count] 55)).heap.size (w.alloc (.cells #[.int .i64 S.code, .int .i64 S.size, .int .i64 S.order, .int .i64 S.seed, .int .i64 S.count] 55)) wz →
      wz.cell? ⟨w.heap.size, 0, none⟩ = some (.int .i64 S.code) ∧ wz.cell? ⟨w.heap.size, 1, none⟩ = some (.int .i64 S.size) ∧ wz.cell? ⟨w.heap.size, 2, none⟩ = some (.int .i64 S.order) ∧ wz.cell? ⟨w.heap.size, 3, none⟩ = some (.int .i64 S.seed) ∧ wz.cell? ⟨w.heap.size, 4, none⟩ = some (.int .i64 S.count) := by
    intro wz hz
    have hr := (hz.block _ hl0).trans (heap_alloc_new w _)
    refine ⟨?_, ?_, ?_, ?_, ?_⟩ <;> (rw [cell_of_row _ _ _ _ _ _ hr]; rfl)
  have HCC := hid hcc
  clear hcc
  go_enter Tryz.func31, Tryz.ntmps31
  unfold Setg.val
  go_wp2_with fail
  generalize w.alloc (.cells #[.int .i64 S.code, .int .i64 S.size, .int .i64 S.order, .int .i64 S.seed, .int .i64 S.count] 55) = w0 at *
  have hSE : Enters Tryz.prog 39 := enters_of Tryz.func39 (by kernel_rfl) rfl
  refine wp_mono (region_sig (Q := fun e a' w' => e = .normal ∧ ∃ gs g, a' = { tmps := ((((setAll _ [(5, S.val), (6, .int .i64 bytes), (7, S.val), (8, .int .i64 bytes), (9, .int .i64 (n : Int)), (10, .slice (some ⟨gs, 0, none⟩) n n)]).set 11 (.agg (earCells S bytes gs n n))).set 12 (.pointer (some ⟨g, 0, none⟩))).set 4 (.pointer (some ⟨g, 0, none⟩))).toArray, defers := [] } ∧ w0.heap.size ≤ g ∧ REar w' g S bytes (List.replicate n 0) ∧ Below w0.heap.size w0 w') 9 6 [5, 6, 7, 8, 9, 10]
    [[2], [1], [2], [1], [7, 8], [9]] [6, 6, 4, 4, 5, 6] (newP S bytes n w0.heap.size) w0 hmix rfl (by decide) rfl (by decide) (by kernel_rfl) (by kernel_rfl) (by kernel_rfl) (by kernel_rfl) (by kernel_rfl) (by kernel_rfl) (fun j hj σ σ' wz he hp => by
      have e0 := he j (Or.inl rfl)
      have h6 : j = 0 ∨ j = 1 ∨ j = 2 ∨ j = 3 ∨ j = 4 ∨ j = 5 := by omega
      rcases h6 with rfl | rfl | rfl | rfl | rfl | rfl
      · exact e0.symm.trans hp
      · exact e0.symm.trans hp
      · exact e0.symm.trans hp
      · exact e0.symm.trans hp
      · exact e0.symm.trans hp
      · obtain ⟨g, h1, h2, h3⟩ := hp
        exact ⟨g, h1, e0.symm.trans h2, h3⟩) newP_mono (fun i' hi' σ ac wc hbc hp hr Q K hK => by
      obtain ⟨c0, c1, c2, c3, c4⟩ := HCC.out wc hbc
      have h6 : i' = 0 ∨ i' = 1 ∨ i' = 2 ∨ i' = 3 ∨ i' = 4 ∨ i' = 5 := by omega
      rcases h6 with rfl | rfl | rfl | rfl | rfl | rfl
      · exact op_value rfl rfl (run_loadSetL (S := S) wc rfl (hr 2 (by decide)) c0 c1 c2 c3 c4) (hK _ wc (grownL wc) (fun σ' _ h => h))
      · exact op_value rfl rfl (run_moveQ wc rfl (hr 1 (by decide))) (hK _ wc (grownL wc) (fun σ' _ h => h))
      · exact op_value rfl rfl (run_loadSetL (S := S) wc rfl (hr 2 (by decide)) c0 c1 c2 c3 c4) (hK _ wc (grownL wc) (fun σ' _ h => h))
      · exact op_value rfl rfl (run_moveQ wc rfl (hr 1 (by decide))) (hK _ wc (grownL wc) (fun σ' _ h => h))
      · refine op_callNL rfl rfl rfl hSE (map2L ((hr 7 (by decide)).trans (hp 2 (by decide) (by kernel_rfl))) ((hr 8 (by decide)).trans (hp 3 (by decide) (by kernel_rfl)))) (hsi wc) fun e w' hr' => ?_
        obtain ⟨rfl, hb⟩ := hr'
        exact ⟨_, rfl, hK _ w' ⟨hb.os, hb.tape, hb.output, hb.size, fun b hb' _ => hb.block b hb'⟩ (fun σ' _ h => h)⟩
      · have e9 := (hr 9 (by decide)).trans (hp 4 (by decide) (by kernel_rfl))
        exact op_value rfl rfl (run_makeI wc rfl e9 e9 hn4) (hK _ _ ⟨rfl, rfl, rfl, by simp, fun k hk _ => Below.heap_alloc _ _ _ hk⟩ (fun σ' _ h => ⟨wc.heap.size, hbc.size, h, heap_alloc_new wc _⟩)))
    (fun σ wc hbc hp => by
      have p0 : σ 0 = _ := hp 0 (by decide)
      have p1 : σ 1 = _ := hp 1 (by decide)
      have p2 : σ 2 = _ := hp 2 (by decide)
      have p3 : σ 3 = _ := hp 3 (by decide)
      have p4 : σ 4 = _ := hp 4 (by decide)
      obtain ⟨gs, s1, p5, s3⟩ := hp 5 (by decide)
      have etb : tbS [5, 6, 7, 8, 9, 10] 6 σ = [(5, S.val), (6, .int .i64 bytes), (7, S.val), (8, .int .i64 bytes), (9, .int .i64 (n : Int)), (10, .slice (some ⟨gs, 0, none⟩) n n)] := by
        show [(5, σ 0), (6, σ 1), (7, σ 2), (8, σ 3), (9, σ 4), (10, σ 5)] = _
        rw [p0, p1, p2, p3, p4, p5]
      rw [etb]
      refine op_value rfl rfl (run_buildEar (S := S) wc rfl (eval_setAll 5 (show ([5, 6, 7, 8, 9, 10] : List Nat).Nodup by decide) (by kernel_rfl)) (eval_setAll 6 (show ([5, 6, 7, 8, 9, 10] : List Nat).Nodup by decide) (by kernel_rfl)) (eval_setAll 10 (show ([5, 6, 7, 8, 9, 10] : List Nat).Nodup by decide) (by kernel_rfl))) ?_
      refine op_value rfl rfl (run_boxEar (S := S) (b := bytes) (g := gs) (m := n) (c := n) wc rfl (Act.eval_put_same _ _ _ (by simp [setAll]))) ?_
      refine op_value rfl rfl (run_assignL _ rfl (v := .pointer (some ⟨wc.heap.size, 0, none⟩)) (Act.eval_put_same _ _ _ (by simp [Act.put, setAll]))) ?_
      have hgs : gs < wc.heap.size := (Array.getElem?_eq_some_iff.1 s3).1
      have hba : Below wc.heap.size wc (wc.alloc (.cells (earCells S bytes gs n n) 119)) := (Below.refl _ wc).alloc (Nat.le_refl _) _
      refine ⟨rfl, gs, wc.heap.size, ?_, hbc.size, ⟨gs, n, ?_, ?_, Nat.lt_of_lt_of_le hgs hba.size, Nat.ne_of_lt hgs, by simp, by unfold maxLen; omega⟩, hbc.trans (hba.mono hbc.size)⟩
      · exact ((congrArg (fun a => Act.put (Act.put a (some 12) (.pointer (some ⟨wc.heap.size, 0, none⟩))) (some 4) (.pointer (some ⟨wc.heap.size, 0, none⟩))) (put_list _ 11 _)).trans (congrArg (fun a => Act.put a (some 4) (.pointer (some ⟨wc.heap.size, 0, none⟩))) (put_list _ 12 _))).trans (put_list _ 4 _)
      · rw [List.length_replicate]; exact heap_alloc_new wc _
      · exact Rd.below (ArrAt.rdL s3) hba)) ?_
  rintro e a' w7 ⟨rfl, gs, g, rfl, hg, hE, hB7⟩
  dsimp only [setAll, List.set, List.append_nil, List.cons_append, List.nil_append]
  have hBB := hb0.trans (hB7.mono hb0.size)
  have hgg : w.heap.size ≤ g := Nat.le_trans (Nat.le_of_lt hl0) hg
  clear hsi HCC
  go_wp2_with fail
  go_ret
  exact ⟨_, rfl, hgg, hE, hBB⟩
end Go.Proofs.YtplkmkbambbemadGreatDoor
