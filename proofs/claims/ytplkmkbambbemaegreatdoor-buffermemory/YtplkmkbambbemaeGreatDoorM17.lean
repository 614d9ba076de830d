import Derived.Test.YtplkmkbambbemaeGreatDoorM13
import Derived.Test.YtplkmkbambbemaeGreatDoorM14
import Derived.Test.YtplkmkbambbemaeGreatDoorM16
import Derived.Test.YtplkmkbambbemaeGreatDoorM10
import Derived.Test.YtplkmkbambbemaeGreatDoorM11
namespace Go.Proofs.YtplkmkbambbemaeGreatDoor
open Go.ChangeShapes Go.WideShapes Go.ChangeAt Go.RowKit
theorem unpack_all (s : ByteArray) (n : Nat) : AllBits (unpackTo s n) := fun x hx => by
  obtain ⟨i, -, rfl⟩ := List.mem_map.1 hx
  exact bitAt_bd s i
/-- What 'Build' goes through, where it may build. -/
theorem unpackL_ok (s : ByteArray) (h : s.size ≤ 40) (w : World) : Calls Tryz.prog 27 #[.string s, .int .i64 (8 * (s.size : Int))] w fun e w' => ∃ a c, e = .returned (.tuple #[.slice a (8 * s.size) c, .int .i64 0]) ∧ Rd .u8 w' a (unpackTo s (8 * s.size)) ∧ Below w.heap.size w w' := by
  have he : unpackErr s (8 * (s.size : Int)) = 0 := by unfold unpackErr; rw [if_neg (by omega), if_neg (by omega)]
  have hL : unpackL s (8 * (s.size : Int)) = unpackTo s (8 * s.size) := by unfold unpackL; rw [if_pos he, show (8 * (s.size : Int)).toNat = 8 * s.size by omega]
  refine (unpack_any s (8 * (s.size : Int)) w (by omega)).mono fun e w' h => ?_
  obtain ⟨v, rfl, ho, hb⟩ := h
  rw [hL] at ho
  rw [he]
  obtain ⟨a, c, rfl, -, -, hr, -⟩ := ho.slice (unpackTo_length s (8 * s.size))
  exact ⟨a, c, rfl, hr, hb⟩
theorem sealL_ok (z : List Int) (k : Nat) (a : Option Addr) (c : Nat) (w : World) (ha : Rd .u8 w a z) (hz : AllBits z) (hl : z.length = k) (hk : k ≤ 4000) :
    Calls Tryz.prog 26 #[.slice a k c, .int .i64 3] w fun e w' => ∃ a' c', e = .returned (.tuple #[.slice a' (k + 24) c', .int .i64 0]) ∧ Rd .u8 w' a' (sealM z) ∧ Below w.heap.size w w' := by
  subst hl
  refine (seal_ok z 3 a c w ha hz.bytes (by unfold errSum; rw [if_pos (errAll hz (by omega))]; rfl) (by show z.length + 24 ≤ 4096; omega)).mono fun e w' h => ?_
  obtain ⟨v, rfl, ho, hb⟩ := h
  obtain ⟨a', c', rfl, -, -, hr, -⟩ := ho.slice (k := z.length + 24) (sealM_length z)
  exact ⟨a', c', rfl, hr, hb⟩
theorem pickL_ok (cs : List Int) (n : Nat) (a : Option Addr) (c v k : Nat) (w : World) (hC : Col w) (ha : Rd .u8 w a cs) (hcs : AllBits cs) (hl : cs.length = n) (h1 : 1 ≤ n) (hn : n ≤ 4096) (hv : v ≤ 3) (hk : k ≤ 4096) :
    Calls Tryz.prog 28 #[.slice a n c, .int .i64 v, .int .i64 k] w fun e w' => ∃ a' c', e = .returned (.tuple #[.slice a' k c', .int .i64 0]) ∧ k ≤ c' ∧ c' ≤ maxLen ∧ Rd .u8 w' a' (takeM cs (pickTo n v k)) ∧ Below w.heap.size w w' := by
  subst hl
  have hE : pickErr cs (v : Int) (k : Int) = 0 := by
    unfold pickErr
    rw [if_pos (errAll hcs hn), show verOk (v : Int) = true from decide_eq_true (by omega), if_neg (by rintro (h | h | h | h) <;> first | omega | cases h)]
  refine (pick_own cs a c (v : Int) (k : Int) w hC ha (by unfold maxLen; omega)).mono fun e w' h => ?_
  obtain ⟨a', k', c', rfl, hb, h0, -⟩ := h
  obtain ⟨hk', ho⟩ := h0 hE
  rw [Int.toNat_natCast] at hk' ho
  rw [Int.toNat_natCast] at ho
  subst hk'
  rw [hE]
  have e1 : pickedM cs v k' = takeM cs (pickTo cs.length v k') := by unfold pickedM takeM pickTo; rw [List.map_map]; rfl
  obtain ⟨a2, c2, e2, k2, m2, r2, -⟩ := ho.slice (pickedM_length cs v k')
  cases e2
  rw [← e1]
  exact ⟨_, _, rfl, k2, m2, r2, hb⟩
theorem coverL_ok (zs : List Int) (k s : Nat) (a : Option Addr) (c : Nat) (w : World) (ha : Rd .u8 w a zs) (hz : AllBits zs) (hl : zs.length = k) (hk : k ≤ 4096) (hs : s < 2147483648) :
    Calls Tryz.prog 32 #[.slice a k c, .int .i64 s] w fun e w' => ∃ a' c', e = .returned (.tuple #[.slice a' k c', .int .i64 0]) ∧ k ≤ c' ∧ c' ≤ maxLen ∧ Rd .u8 w' a' (addTo zs (noiseTo s k) k) ∧ Below w.heap.size w w' := by
  subst hl
  refine (cover_ok zs s a c w ha hz.bits (errAll hz hk) hs).mono fun e w' h => ?_
  obtain ⟨v, rfl, ho, hb⟩ := h
  obtain ⟨a', c', rfl, hc1, hc2, hr, -⟩ := ho.slice (k := zs.length) (addTo_length _ _ _)
  exact ⟨a', c', rfl, hc1, hc2, hr, hb⟩
theorem sendL_ok (b : List Int) (k h o n : Nat) (a : Option Addr) (c : Nat) (w : World) (hr : Rd .u8 w a b) (hb : AllBits b) (hl : b.length = k) (hkc : k ≤ c) (hcm : c ≤ maxLen) (h1 : 1 ≤ h) (hh : h ≤ 3) (ho : o = 2 * h) (hkn : k = n * o) (hk : k ≤ 4096) :
    Calls Tryz.prog 31 #[.slice a k c, .int .i64 o] w fun e w' => ∃ g, e = .returned (.tuple #[.slice (some ⟨g, 0, none⟩) n n, .int .i64 0]) ∧ OwnP w' w.heap.size (.slice (some ⟨g, 0, none⟩) n n) (sentM h b o n) ∧ Below w.heap.size w w' := by
  subst hl
  have h01 : ∀ x ∈ b, x = 0 ∨ x = 1 := fun x hx => by have := hb x hx; omega
  have hn4 : n ≤ 4096 := by
    have : n * 1 ≤ n * o := Nat.mul_le_mul_left n (by omega)
    omega
  refine (send_good b h o n a c w hr hkc hcm (errAll hb hk) h1 hh ho hkn hn4 h01).mono fun e w' h' => ?_
  obtain ⟨g, rfl, hP, hg, hbl⟩ := h'
  refine ⟨g, rfl, ?_, hbl⟩
  subst ho
  have hal := sentA_all h1 hh hkn h01
  have hw := hP.owns hg (sentA_length (Nat.le_refl n)) (by unfold maxLen; omega)
  rw [hal] at hw
  have e2 : (sentM h b (2 * h) n).length = n := by simp [sentM]
  unfold OwnP
  rw [e2]
  exact hw
def ptsT (n : Nat) (M : List (Int × Int)) (B0 : Nat) : Value → World → Prop := fun x w => ∃ g, x = .tuple #[.slice (some ⟨g, 0, none⟩) n n, .int .i64 0] ∧ OwnP w B0 (.slice (some ⟨g, 0, none⟩) n n) M
def ptsO (n : Nat) (M : List (Int × Int)) (B0 : Nat) : Value → World → Prop := fun x w => ∃ g, x = .slice (some ⟨g, 0, none⟩) n n ∧ OwnP w B0 (.slice (some ⟨g, 0, none⟩) n n) M
theorem ownP_below {w w' : World} {B : Nat} {v : Value} {ps : List (Int × Int)} (h : OwnP w B v ps) (hb : Below w.heap.size w w') : OwnP w' B v ps := OwnT.below (T := 44) h hb
theorem ptsT_mono (n : Nat) (M : List (Int × Int)) (B0 : Nat) : MonoR (ptsT n M B0) := fun _ _ _ ⟨g, h1, h2⟩ hg => ⟨g, h1, ownP_below h2 (below_of_grown hg)⟩
theorem ptsO_mono (n : Nat) (M : List (Int × Int)) (B0 : Nat) : MonoR (ptsO n M B0) := fun _ _ _ ⟨g, h1, h2⟩ hg => ⟨g, h1, ownP_below h2 (below_of_grown hg)⟩
theorem sealM_bitsL {s : ByteArray} : AllBits (sealM (unpackTo s (8 * s.size))) := sealM_all (unpack_all s _)
set_option maxRecDepth 100000 in
set_option maxHeartbeats 2000000 in
theorem lbuild_ok (s : ByteArray) (S : Setg) (v : Nat) (w : World) (hR : ReadyL w) (hIn : S.In) (hE : setErr S s.size = 0) (hv : v ≤ 3) :
    Calls Tryz.prog 12 #[.string s, S.val, .int .i64 v] w fun e w' => ∃ g n, e = .returned (.tuple #[.slice (some ⟨g, 0, none⟩) n n, .int .i64 0]) ∧ Below w.heap.size w w' ∧ OwnP w' w.heap.size (.slice (some ⟨g, 0, none⟩) n n) (builtM S s v) := by
  have hS := setOk_of hE
  have hfew := hS.few
  have hs40 : s.size ≤ 40 := by omega
  have hcount := hS.count
  have horder := hS.order
  have hseed := hS.seed
  have hchk := fun wz => lcheck_any S (s.size : Int) wz hIn ⟨by omega, by omega⟩
  rw [hE] at hchk
  have hver := fun wz => lversion_any (v : Int) wz
  rw [show verErr (v : Int) = 0 by unfold verErr; rw [show verOk (v : Int) = true from decide_eq_true (by omega)]; rfl] at hver
  obtain ⟨z, ez⟩ : ∃ z, z = sealM (unpackTo s (8 * s.size)) := ⟨_, rfl⟩
  have hzl : z.length = 8 * s.size + 24 := by rw [ez, sealM_length, unpackTo_length]
  have hzb : AllBits z := by rw [ez]; exact sealM_bitsL
  have hcl : ((codeL S z).length : Int) = codedN S s.size := codeL_length hzl hS.code fun e => (hS.size1 e).1
  have hcb : AllBits (codeL S z) := codeL_all hzb
  have hcn : 1 ≤ (codeL S z).length ∧ (codeL S z).length ≤ 4096 := by
    unfold codedN at hcl
    rcases hS.code with h | h
    · rw [if_pos h] at hcl; omega
    · rw [if_neg (by omega)] at hcl
      have hp := (hS.size1 h).1
      unfold powI at hp
      have := of_decide_eq_true hp
      omega
  obtain ⟨O, eO⟩ : ∃ O : Nat, S.order = O := ⟨S.order.toNat, by omega⟩
  obtain ⟨C, eC⟩ : ∃ C : Nat, S.count = C := ⟨S.count.toNat, by omega⟩
  obtain ⟨U, eU⟩ : ∃ U : Nat, S.seed = U := ⟨S.seed.toNat, by omega⟩
  obtain ⟨h, hh⟩ : ∃ h : Nat, O = 2 * h ∧ 1 ≤ h ∧ h ≤ 3 := ⟨O / 2, by omega⟩
  obtain ⟨q, hq⟩ : ∃ q : Nat, C = q * O := by
    refine ⟨C / O, ?_⟩
    have h3 := hcount.2.2
    rw [eC, eO] at h3
    have h4 : C % O = 0 := by exact_mod_cast h3
    have := Nat.div_add_mod C O
    rw [h4, Nat.mul_comm] at this
    omega
  have hBM : builtM S s v = sentM h (addTo (takeM (codeL S z) (pickTo (codeL S z).length v C)) (noiseTo U C) C) O q := by
    unfold builtM coverM
    rw [← ez]
    have e1 : (pickedK S z v).length = C := by rw [pickedK_length, eC]; rfl
    rw [e1]
    unfold pickedK
    rw [eC, eO, eU, Int.toNat_natCast, Int.toNat_natCast, Int.toNat_natCast, hh.1, show 2 * h / 2 = h by omega, hq, hh.1, Nat.mul_div_cancel _ (by omega)]
  rw [hBM]
  obtain ⟨L, eL⟩ : ∃ L, L = codeL S z := ⟨_, rfl⟩
  have hun := fun wz => unpackL_ok s hs40 wz
  have hse := fun (wz : World) (a : Option Addr) (c : Nat) (h : Rd .u8 wz a (unpackTo s (8 * s.size))) => sealL_ok (unpackTo s (8 * s.size)) (8 * s.size) a c wz h (unpack_all s _) (unpackTo_length _ _) (by omega)
  rw [← ez] at hse
  have hen := fun (wz : World) (a : Option Addr) (c : Nat) (hr : ReadyL wz) (h : Rd .u8 wz a z) => lencode_any S s.size z a (8 * s.size + 24) c wz hS hr h hzb hzl rfl
  rw [← eL] at hen hcl hcb hcn ⊢
  obtain ⟨N, eN⟩ : ∃ N, N = L.length := ⟨_, rfl⟩
  have hpi := fun (wz : World) (a : Option Addr) (c : Nat) (hr : Col wz) (h : Rd .u8 wz a L) => pickL_ok L N a c v C wz hr h hcb eN.symm (by omega) (by omega) hv (by omega)
  rw [← eN]
  obtain ⟨Z, eZ⟩ : ∃ Z, Z = takeM L (pickTo N v C) := ⟨_, rfl⟩
  have hZl : Z.length = C := by rw [eZ, takeM_length, pickTo_len]
  have hZb : AllBits Z := by rw [eZ]; exact takeM_bits hcb _
  rw [← eZ] at hpi ⊢
  have hco := fun (wz : World) (a : Option Addr) (c : Nat) (h : Rd .u8 wz a Z) => coverL_ok Z C U a c wz h hZb hZl (by omega) (by omega)
  obtain ⟨D, eD⟩ : ∃ D, D = addTo Z (noiseTo U C) C := ⟨_, rfl⟩
  have hDl : D.length = C := by rw [eD, addTo_length]
  have hDb : AllBits D := by rw [eD]; exact addTo_all _ _ _
  rw [← eD] at hco ⊢
  have hsd := fun (wz : World) (a : Option Addr) (c : Nat) (h' : Rd .u8 wz a D) (h1 : C ≤ c) (h2 : c ≤ maxLen) => sendL_ok D C h O q a c wz h' hDb hDl h1 h2 hh.2.1 hh.2.2 hh.1 hq (by omega)
  obtain ⟨M, eM⟩ : ∃ M, M = sentM h D O q := ⟨_, rfl⟩
  rw [← eM] at hsd ⊢
  have HN : Hid (L.length = N) := eN.symm
  have HC := hid eC
  have HU := hid eU
  have HO := hid eO
  have hmix : Tryz.prog.follows .mixedOrders = true := by kernel_rfl
  have HCC : Hid (∀ wz, Below (w.alloc (.cells #[.int .i64 S.code, .int .i64 S.size, .int .i64 S.order, .int .i64 S.seed, .int .i64 S.count] 24)).heap.size (w.alloc (.cells #[.int .i64 S.code, .int .i64 S.size, .int .i64 S.order, .int .i64 S.seed, .int .i64 S.count] 24)) wz → wz.cell? ⟨w.heap.size, 0, none⟩ = some (.int .i64 S.code) ∧ wz.cell? ⟨w.heap.size, 1, none⟩ = some (.int .i64 S.size) ∧ wz.cell? ⟨w.heap.size, 2, none⟩ = some (.int .i64 S.order) ∧ wz.cell? ⟨w.heap.size, 3, none⟩ = some (.int .i64 S.seed) ∧ wz.cell? ⟨w.heap.size, 4, none⟩ = some (.int .i64 S.count)) := fun wz h => set_cells h
  have hb0 : Below w.heap.size w (w.alloc (.cells #[.int .i64 S.code, .int .i64 S.size, .int .i64 S.order, .int .i64 S.seed, .int .i64 S.count] 24)) := (Below.refl _ w).alloc (Nat.le_refl _) _
  have hl0 : w.heap.size < (w.alloc (.cells #[.int .i64 S.code, .int .i64 S.size, .int .i64 S.order, .int .i64 S.seed, .int .i64 S.count] 24)).heap.size := by simp
  have hR0 := hR.below hb0
  clear hBM eM eD eZ eN eL ez eC eU eO hDl hDb hZl hZb hcl hcb hcn hzl hzb hS hE hIn hcount horder hseed hq hh hv hfew
  unfold Setg.val
  go_enter Tryz.func12, Tryz.ntmps12
  go_wp2_with fail
  generalize w.alloc (.cells #[.int .i64 S.code, .int .i64 S.size, .int .i64 S.order, .int .i64 S.seed, .int .i64 S.count] 24) = w0 at *
  refine (hchk _).mono ?_
  rintro e w1 ⟨rfl, hb1⟩
  have hRd : ∀ wz, Below w0.heap.size w0 wz → ReadyL wz := fun wz h => hR0.below h
  go_wp2_with (first
    | (go_at_call 24; refine (hver _).mono ?_; rintro e w2 ⟨rfl, rfl⟩)
    | (go_at_call 27; refine (hun _).mono ?_; rintro e w3 ⟨a3, c3, rfl, hr3, hb3⟩)
    | (go_at_call 25; refine (mustB _ _).mono ?_; rintro e w9 ⟨rfl, rfl⟩)
    | (go_at_call 26; refine (hse _ _ _ hr3).mono ?_; rintro e w4 ⟨a4, c4, rfl, hr4, hb4⟩; have hB4 := hb1.trans ((hb3.trans (hb4.mono hb3.size)).mono hb1.size))
    | fail)
  refine wp_mono (region_each (Q := fun e a' w' => e = .normal ∧ ∃ σ : Nat → Value, a' = ({ tmps := ((setAll _ (tbS [36, 37, 38, 39, 40, 41, 42, 43, 44, 45] 10 σ)).set 11 (σ 9)).toArray, defers := [] } : Act) ∧ sliR .u8 C Z (σ 9) w' ∧ Below w4.heap.size w4 w') 11 10 [36, 37, 38, 39, 40, 41, 42, 43, 44, 45]
    [[10], [4], [36, 37], [2], [4], [40], [38, 39, 41], [42], [42], [43, 44]] [2, 2, 6, 6, 5, 6, 7, 9, 9, 10]
    [eqR (.slice a4 (8 * s.size + 24) c4), eqR S.val, sliR .u8 N L, eqR (.int .i64 (v : Int)), eqR (.pointer (some ⟨w.heap.size, 0 + 4, none⟩)), eqR (.int .i64 (C : Int)), tupR .u8 C Z, sliR .u8 C Z, eqR (.int .i64 0), sliR .u8 C Z] w4 hmix rfl (by decide) rfl (by decide) (by kernel_rfl) (by kernel_rfl) (by kernel_rfl) (by kernel_rfl) (by kernel_rfl) (by kernel_rfl)
    (by intro R hR; simp only [List.mem_cons, List.not_mem_nil, or_false] at hR; rcases hR with rfl | rfl | rfl | rfl | rfl | rfl | rfl | rfl | rfl | rfl <;> (first | (exact eqR_mono _) | (exact sliR_mono _ _ _) | (exact tupR_mono _ _ _)))
    (fun i' hi' σ ac wc hbc hp hr Q K hK => by
      have hor : i' = 0 ∨ i' = 1 ∨ i' = 2 ∨ i' = 3 ∨ i' = 4 ∨ i' = 5 ∨ i' = 6 ∨ i' = 7 ∨ i' = 8 ∨ i' = 9 := by omega
      rcases hor with rfl | rfl | rfl | rfl | rfl | rfl | rfl | rfl | rfl | rfl
      · have e10 := hr 10 (by decide)
        exact op_value rfl rfl (run_moveQ wc rfl e10) (hK _ wc (grownL wc) rfl)
      · have e4 := hr 4 (by decide)
        obtain ⟨c0, c1, c2, c3, c4⟩ := HCC.out wc (hB4.trans (hbc.mono hB4.size))
        exact op_value rfl rfl (run_loadSetL (S := S) wc rfl e4 c0 c1 c2 c3 c4) (hK _ wc (grownL wc) rfl)
      · have e36 : ac.eval (.tmp 36) = (.slice a4 (8 * s.size + 24) c4) := (hr 36 (by decide)).trans (hp 0 (by decide) (by kernel_rfl))
        have e37 : ac.eval (.tmp 37) = S.val := (hr 37 (by decide)).trans (hp 1 (by decide) (by kernel_rfl))
        refine op_callNL rfl rfl rfl (enters_of Tryz.func29 (by kernel_rfl) rfl) (map2L e36 e37) (hen wc _ _ (hRd wc (hB4.trans (hbc.mono hB4.size))) (hr4.below hbc)) fun e w' hr' => ?_
        obtain ⟨v38, rfl, ho38, hb'⟩ := hr'
        exact ⟨_, rfl, hK _ w' (grown_of_below hb') (by obtain ⟨a38, c38, rfl, k38, m38, r38, -⟩ := ho38.slice HN.out; exact sliR.mk k38 m38 r38)⟩
      · have e2 := hr 2 (by decide)
        exact op_value rfl rfl (run_moveQ wc rfl e2) (hK _ wc (grownL wc) rfl)
      · have e4 := hr 4 (by decide)
        exact op_value rfl rfl (run_fldSet4 wc rfl e4) (hK _ wc (grownL wc) rfl)
      · have e40 : ac.eval (.tmp 40) = (.pointer (some ⟨w.heap.size, 0 + 4, none⟩)) := (hr 40 (by decide)).trans (hp 4 (by decide) (by kernel_rfl))
        obtain ⟨c0, c1, c2, c3, c4⟩ := HCC.out wc (hB4.trans (hbc.mono hB4.size))
        exact op_value rfl rfl (run_loadI wc rfl e40 (HC.out ▸ c4)) (hK _ wc (grownL wc) rfl)
      · obtain ⟨a38, c38, q38, k38, m38, r38⟩ := hp 2 (by decide) (by kernel_rfl)
        have e38 := (hr 38 (by decide)).trans q38
        have e39 : ac.eval (.tmp 39) = (.int .i64 (v : Int)) := (hr 39 (by decide)).trans (hp 3 (by decide) (by kernel_rfl))
        have e41 : ac.eval (.tmp 41) = (.int .i64 (C : Int)) := (hr 41 (by decide)).trans (hp 5 (by decide) (by kernel_rfl))
        refine op_callNL rfl rfl rfl (enters_of Tryz.func28 (by kernel_rfl) rfl) (map3L e38 e39 e41) (hpi wc _ _ (hRd wc (hB4.trans (hbc.mono hB4.size))).col r38) fun e w' hr' => ?_
        obtain ⟨a42, c42, rfl, k42, m42, r42, hb'⟩ := hr'
        exact ⟨_, rfl, hK _ w' (grown_of_below hb') (tupR.mk k42 m42 r42)⟩
      · obtain ⟨a42, c42, q42, k42, m42, r42⟩ := hp 6 (by decide) (by kernel_rfl)
        have e42 := (hr 42 (by decide)).trans q42
        exact op_value rfl rfl (run_extractL wc rfl e42 rfl) (hK _ wc (grownL wc) (sliR.mk k42 m42 r42))
      · obtain ⟨a42, c42, q42, k42, m42, r42⟩ := hp 6 (by decide) (by kernel_rfl)
        have e42 := (hr 42 (by decide)).trans q42
        exact op_value rfl rfl (run_extractL wc rfl e42 rfl) (hK _ wc (grownL wc) rfl)
      · obtain ⟨a43, c43, q43, k43, m43, r43⟩ := hp 7 (by decide) (by kernel_rfl)
        have e43 := (hr 43 (by decide)).trans q43
        have e44 : ac.eval (.tmp 44) = (.int .i64 0) := (hr 44 (by decide)).trans (hp 8 (by decide) (by kernel_rfl))
        refine op_callNL rfl rfl rfl (enters_of Tryz.func25 (by kernel_rfl) rfl) (map2L e43 e44) (mustB _ wc) fun e w' hr' => ?_
        obtain ⟨rfl, rfl⟩ := hr'
        exact ⟨_, rfl, hK _ _ (grownL _) (sliR.mk k43 m43 r43)⟩)
    (fun σ wc hbc hp => by
      refine op_value rfl rfl (run_assignL wc rfl (eval_setAll (t := tbS [36, 37, 38, 39, 40, 41, 42, 43, 44, 45] 10 σ) 45 (show ([36, 37, 38, 39, 40, 41, 42, 43, 44, 45] : List Nat).Nodup by decide) (by kernel_rfl))) ⟨rfl, σ, put_list _ _ _, hp 9 (by decide), hbc⟩)) ?_
  rintro e a' w5 ⟨rfl, σ5, rfl, ⟨a5, c5, q5, k5, m5, hr5⟩, hb5⟩
  have hB5 := hB4.trans (hb5.mono hB4.size)
  rw [show tbS [36, 37, 38, 39, 40, 41, 42, 43, 44, 45] 10 σ5 = [(36, σ5 0), (37, σ5 1), (38, σ5 2), (39, σ5 3), (40, σ5 4), (41, σ5 5), (42, σ5 6), (43, σ5 7), (44, σ5 8), (45, σ5 9)] from rfl, q5]
  dsimp only [setAll, List.set, List.append_nil, List.cons_append, List.nil_append]
  go_wp2_with fail
  refine wp_mono (region_each (Q := fun e a' w' => e = .normal ∧ ∃ σ : Nat → Value, a' = ({ tmps := ((setAll _ (tbS [46, 47, 48, 49, 50, 51, 52, 53, 54, 55, 56, 57, 58, 6] 14 σ)).set 7 (.int .i64 0)).toArray, defers := [] } : Act) ∧ ptsO q M w.heap.size (σ 13) w' ∧ Below w5.heap.size w5 w') 15 14 [46, 47, 48, 49, 50, 51, 52, 53, 54, 55, 56, 57, 58, 6]
    [[11], [4], [47], [46, 48], [49], [49], [50, 51], [4], [53], [52, 54], [55], [55], [56, 57], [58]] [3, 2, 3, 4, 6, 6, 9, 8, 9, 10, 12, 12, 13, 14]
    [eqR (.slice a5 C c5), eqR (.pointer (some ⟨w.heap.size, 0 + 3, none⟩)), eqR (.int .i64 (U : Int)), tupR .u8 C D, sliR .u8 C D, eqR (.int .i64 0), sliR .u8 C D, eqR (.pointer (some ⟨w.heap.size, 0 + 2, none⟩)), eqR (.int .i64 (O : Int)), ptsT q M w.heap.size, ptsO q M w.heap.size, eqR (.int .i64 0), ptsO q M w.heap.size, ptsO q M w.heap.size] w5 hmix rfl (by decide) rfl (by decide) (by kernel_rfl) (by kernel_rfl) (by kernel_rfl) (by kernel_rfl) (by kernel_rfl) (by kernel_rfl)
    (by intro R hR; simp only [List.mem_cons, List.not_mem_nil, or_false] at hR; rcases hR with rfl | rfl | rfl | rfl | rfl | rfl | rfl | rfl | rfl | rfl | rfl | rfl | rfl | rfl <;> (first | (exact eqR_mono _) | (exact tupR_mono _ _ _) | (exact sliR_mono _ _ _) | (exact ptsT_mono _ _ _) | (exact ptsO_mono _ _ _)))
    (fun i' hi' σ ac wc hbc hp hr Q K hK => by
      have hor : i' = 0 ∨ i' = 1 ∨ i' = 2 ∨ i' = 3 ∨ i' = 4 ∨ i' = 5 ∨ i' = 6 ∨ i' = 7 ∨ i' = 8 ∨ i' = 9 ∨ i' = 10 ∨ i' = 11 ∨ i' = 12 ∨ i' = 13 := by omega
      rcases hor with rfl | rfl | rfl | rfl | rfl | rfl | rfl | rfl | rfl | rfl | rfl | rfl | rfl | rfl
      · have e11 := hr 11 (by decide)
        exact op_value rfl rfl (run_moveQ wc rfl e11) (hK _ wc (grownL wc) rfl)
      · have e4 := hr 4 (by decide)
        exact op_value rfl rfl (run_fldSet3 wc rfl e4) (hK _ wc (grownL wc) rfl)
      · have e47 : ac.eval (.tmp 47) = (.pointer (some ⟨w.heap.size, 0 + 3, none⟩)) := (hr 47 (by decide)).trans (hp 1 (by decide) (by kernel_rfl))
        obtain ⟨c0, c1, c2, c3, c4⟩ := HCC.out wc (hB5.trans (hbc.mono hB5.size))
        exact op_value rfl rfl (run_loadI wc rfl e47 (HU.out ▸ c3)) (hK _ wc (grownL wc) rfl)
      · have e46 : ac.eval (.tmp 46) = (.slice a5 C c5) := (hr 46 (by decide)).trans (hp 0 (by decide) (by kernel_rfl))
        have e48 : ac.eval (.tmp 48) = (.int .i64 (U : Int)) := (hr 48 (by decide)).trans (hp 2 (by decide) (by kernel_rfl))
        refine op_callNL rfl rfl rfl (enters_of Tryz.func32 (by kernel_rfl) rfl) (map2L e46 e48) (hco wc _ _ (hr5.below hbc)) fun e w' hr' => ?_
        obtain ⟨a49, c49, rfl, k49, m49, r49, hb'⟩ := hr'
        exact ⟨_, rfl, hK _ w' (grown_of_below hb') (tupR.mk k49 m49 r49)⟩
      · obtain ⟨a49, c49, q49, k49, m49, r49⟩ := hp 3 (by decide) (by kernel_rfl)
        have e49 := (hr 49 (by decide)).trans q49
        exact op_value rfl rfl (run_extractL wc rfl e49 rfl) (hK _ wc (grownL wc) (sliR.mk k49 m49 r49))
      · obtain ⟨a49, c49, q49, k49, m49, r49⟩ := hp 3 (by decide) (by kernel_rfl)
        have e49 := (hr 49 (by decide)).trans q49
        exact op_value rfl rfl (run_extractL wc rfl e49 rfl) (hK _ wc (grownL wc) rfl)
      · obtain ⟨a50, c50, q50, k50, m50, r50⟩ := hp 4 (by decide) (by kernel_rfl)
        have e50 := (hr 50 (by decide)).trans q50
        have e51 : ac.eval (.tmp 51) = (.int .i64 0) := (hr 51 (by decide)).trans (hp 5 (by decide) (by kernel_rfl))
        refine op_callNL rfl rfl rfl (enters_of Tryz.func25 (by kernel_rfl) rfl) (map2L e50 e51) (mustB _ wc) fun e w' hr' => ?_
        obtain ⟨rfl, rfl⟩ := hr'
        exact ⟨_, rfl, hK _ _ (grownL _) (sliR.mk k50 m50 r50)⟩
      · have e4 := hr 4 (by decide)
        exact op_value rfl rfl (run_fldSet2 wc rfl e4) (hK _ wc (grownL wc) rfl)
      · have e53 : ac.eval (.tmp 53) = (.pointer (some ⟨w.heap.size, 0 + 2, none⟩)) := (hr 53 (by decide)).trans (hp 7 (by decide) (by kernel_rfl))
        obtain ⟨c0, c1, c2, c3, c4⟩ := HCC.out wc (hB5.trans (hbc.mono hB5.size))
        exact op_value rfl rfl (run_loadI wc rfl e53 (HO.out ▸ c2)) (hK _ wc (grownL wc) rfl)
      · obtain ⟨a52, c52, q52, k52, m52, r52⟩ := hp 6 (by decide) (by kernel_rfl)
        have e52 := (hr 52 (by decide)).trans q52
        have e54 : ac.eval (.tmp 54) = (.int .i64 (O : Int)) := (hr 54 (by decide)).trans (hp 8 (by decide) (by kernel_rfl))
        refine op_callNL rfl rfl rfl (enters_of Tryz.func31 (by kernel_rfl) rfl) (map2L e52 e54) (hsd wc _ _ r52 k52 m52) fun e w' hr' => ?_
        obtain ⟨g55, rfl, ho55, hb'⟩ := hr'
        exact ⟨_, rfl, hK _ w' (grown_of_below hb') (show ptsT q M w.heap.size _ _ from ⟨g55, rfl, OwnP.monoL ho55 (Nat.le_trans (Nat.le_of_lt hl0) (Nat.le_trans hB5.size hbc.size))⟩)⟩
      · obtain ⟨g55, q55, h55⟩ := hp 9 (by decide) (by kernel_rfl)
        have e55 := (hr 55 (by decide)).trans q55
        exact op_value rfl rfl (run_extractL wc rfl e55 rfl) (hK _ wc (grownL wc) (show ptsO q M w.heap.size _ _ from ⟨g55, rfl, h55⟩))
      · obtain ⟨g55, q55, h55⟩ := hp 9 (by decide) (by kernel_rfl)
        have e55 := (hr 55 (by decide)).trans q55
        exact op_value rfl rfl (run_extractL wc rfl e55 rfl) (hK _ wc (grownL wc) rfl)
      · obtain ⟨g56, q56, h56⟩ := hp 10 (by decide) (by kernel_rfl)
        have e56 := (hr 56 (by decide)).trans q56
        have e57 : ac.eval (.tmp 57) = (.int .i64 0) := (hr 57 (by decide)).trans (hp 11 (by decide) (by kernel_rfl))
        refine op_callNL rfl rfl rfl (enters_of Tryz.func30 (by kernel_rfl) rfl) (map2L e56 e57) (mustP _ wc) fun e w' hr' => ?_
        obtain ⟨rfl, rfl⟩ := hr'
        exact ⟨_, rfl, hK _ _ (grownL _) (show ptsO q M w.heap.size _ _ from ⟨g56, rfl, h56⟩)⟩
      · obtain ⟨g58, q58, h58⟩ := hp 12 (by decide) (by kernel_rfl)
        have e58 := (hr 58 (by decide)).trans q58
        exact op_value rfl rfl (run_assignL wc rfl e58) (hK _ wc (grownL wc) (show ptsO q M w.heap.size _ _ from ⟨g58, rfl, h58⟩)))
    (fun σ wc hbc hp => by
      refine op_value rfl rfl (run_assignL wc rfl rfl) ⟨rfl, σ, put_list _ _ _, hp 13 (by decide), hbc⟩)) ?_
  rintro e a' w6 ⟨rfl, σ6, rfl, ⟨g6, q6, ho6⟩, hb6⟩
  rw [show tbS [46, 47, 48, 49, 50, 51, 52, 53, 54, 55, 56, 57, 58, 6] 14 σ6 = [(46, σ6 0), (47, σ6 1), (48, σ6 2), (49, σ6 3), (50, σ6 4), (51, σ6 5), (52, σ6 6), (53, σ6 7), (54, σ6 8), (55, σ6 9), (56, σ6 10), (57, σ6 11), (58, σ6 12), (6, σ6 13)] from rfl, q6]
  dsimp only [setAll, List.set, List.append_nil, List.cons_append, List.nil_append]
  have hBB := hb0.trans ((hB5.trans (hb6.mono hB5.size)).mono hb0.size)
  go_wp2_with fail
  go_ret2
  exact ⟨g6, q, rfl, hBB, ho6⟩
set_option maxHeartbeats 2000000 in
theorem lbuild_bad (s : ByteArray) (S : Setg) (v : Int) (w : World) (hIn : S.In) (hs : I64k (s.size : Int)) (hE : buildErr S s.size v ≠ 0) :
    Calls Tryz.prog 12 #[.string s, S.val, .int .i64 v] w fun e w' => e = .returned (.tuple #[.slice none 0 0, .int .i64 (buildErr S s.size v)]) ∧ Below w.heap.size w w' := by
  have hchk := fun wz => lcheck_any S (s.size : Int) wz hIn hs
  have hver := fun wz => lversion_any v wz
  obtain ⟨hs1, hs2⟩ := hs
  have hb0 : Below w.heap.size w (w.alloc (.cells #[.int .i64 S.code, .int .i64 S.size, .int .i64 S.order, .int .i64 S.seed, .int .i64 S.count] 24)) := (Below.refl _ w).alloc (Nat.le_refl _) _
  unfold buildErr at *
  unfold Setg.val at *
  by_cases h0 : setErr S s.size = 0
  · rw [if_pos h0] at *
    have hv : verOk v = false := by
      cases hq : verOk v with
      | false => rfl
      | true => rw [hq] at hE; exact absurd rfl hE
    rw [hv]
    rw [show verErr v = 1 by unfold verErr; rw [hv]; rfl] at hver
    rw [h0] at hchk
    clear hE h0 hv
    go_enter Tryz.func12, Tryz.ntmps12
    go_wp2_with (first
      | (go_at_call 23; refine (hchk _).mono ?_; rintro e w1 ⟨rfl, hb1⟩)
      | (go_at_call 24; refine (hver _).mono ?_; rintro e w2 ⟨rfl, rfl⟩)
      | fail)
    go_ret2
    exact ⟨rfl, hb0.trans (hb1.mono hb0.size)⟩
  · rw [if_neg h0] at *
    obtain ⟨E, eE⟩ : ∃ E, E = setErr S s.size := ⟨_, rfl⟩
    rw [← eE] at h0 hchk ⊢
    have q0 : (E != 0) = true := by simpa using h0
    clear hE h0 eE hver
    go_enter Tryz.func12, Tryz.ntmps12
    go_wp2_with (first
      | (go_at_call 23; refine (hchk _).mono ?_; rintro e w1 ⟨rfl, hb1⟩)
      | fail)
    go_ret2
    exact ⟨rfl, hb0.trans (hb1.mono hb0.size)⟩
end Go.Proofs.YtplkmkbambbemaeGreatDoor
namespace Go.Proofs.YtplkmkbambbemaeGreatDoor
open Go.ChangeShapes Go.WideShapes Go.ChangeAt Go.RowKit
/-- A block whose first cell is u, the others r. -/
def BoxR (W : World) (B : Nat) (t : TypeId) (r : List Value) (u : Value) : Prop := W.heap[B]? = some (.cells (u :: r).toArray t (0, 0))
theorem BoxR.lt {W : World} {B : Nat} {t : TypeId} {r : List Value} {v : Value} (h : BoxR W B t r v) : B < W.heap.size := (Array.getElem?_eq_some_iff.1 h).1
theorem BoxR.cell {W : World} {B : Nat} {t : TypeId} {r : List Value} {v : Value} (h : BoxR W B t r v) : W.cell? ⟨B, 0, none⟩ = some v := by simp [World.cell?, show W.heap[B]? = _ from h]
theorem BoxR.frozen {W : World} {B : Nat} {t : TypeId} {r : List Value} {v : Value} (h : BoxR W B t r v) : W.frozen? ⟨B, 0, none⟩ = false := by simp [World.frozen?, show W.heap[B]? = _ from h]
theorem BoxR.set {W : World} {B : Nat} {t : TypeId} {r : List Value} {v : Value} (v' : Value) (h : BoxR W B t r v) : BoxR (W.setCell ⟨B, 0, none⟩ v') B t r v' := by
  obtain ⟨hlt, hk⟩ := Array.getElem?_eq_some_iff.1 h
  show (W.heap.modify B _)[B]? = _
  rw [Array.getElem?_eq_getElem (by rw [Array.size_modify]; exact hlt), Array.getElem_modify_self, hk]
  simp
theorem BoxR.of {W : World} {B : Nat} {t : TypeId} {v : Value} (h : Boxed W B t v) : BoxR W B t [] v := h
theorem BoxR.old {w w' : World} {B : Nat} {t : TypeId} {r : List Value} {u : Value} (h : BoxR w B t r u) (hb : Below w.heap.size w w') : BoxR w' B t r u := (hb.block B h.lt).trans h
def BufR (t : TypeId) (r : List Value) (w : World) (p : Addr) (S : List Nat) (s : List Int) : Prop :=
  ∃ b g, p = ⟨b, 0, none⟩ ∧ S = [b, g] ∧ b ≠ g ∧ BoxR w b t r (.slice (some ⟨g, 0, none⟩) s.length s.length) ∧ ArrAt .i64 3 w g s
def BufP (w : World) (p : Addr) (S : List Nat) (s : List Int) : Prop := BufR 52 [] w p S s
theorem BufR.lt {t : TypeId} {r : List Value} {w : World} {p : Addr} {S : List Nat} {s : List Int} (h : BufR t r w p S s) : ∀ x ∈ S, x < w.heap.size := by
  obtain ⟨b, g, rfl, rfl, _, hb, hg⟩ := h
  intro x hx
  simp at hx
  rcases hx with rfl | rfl
  · exact hb.lt
  · exact hg.lt
theorem BufR.kept {t : TypeId} {r : List Value} {w w' : World} {p : Addr} {S T : List Nat} {s : List Int} (h : BufR t r w p S s) (hk : Kept T w w') (hs : ∀ x ∈ S, x ∉ T) : BufR t r w' p S s := by
  obtain ⟨b, g, rfl, rfl, hne, hb, hg⟩ := h
  exact ⟨b, g, rfl, rfl, hne, (hk.block b hb.lt (hs b (by simp))).trans hb, hg.kept hk (hs g (by simp))⟩
set_option maxHeartbeats 1000000 in
theorem new_bad (n : Int) (w : World) (h : n < 1 ∨ 4096 < n) : Calls Tryz.prog 4 #[.int .i64 n] w fun e w' => e = .returned (.tuple #[.pointer none, .int .i64 1]) ∧ w = w' := by
  have hsz := checkSize_any n w
  rw [show sizeErrM n = 1 by unfold sizeErrM; rw [show sizeOk n = false from decide_eq_false (by omega)]; rfl] at hsz
  clear h
  go_enter Tryz.func4, Tryz.ntmps4
  go_wp2_with (first | (go_at_call 18; refine hsz.mono ?_; rintro e w1 ⟨rfl, rfl⟩))
  go_ret2
  exact ⟨rfl, rfl⟩
set_option maxHeartbeats 1000000 in
theorem new_any (n : Nat) (w : World) (h1 : 1 ≤ n) (hn : n ≤ 4096) : Calls Tryz.prog 4 #[.int .i64 n] w fun e w' => ∃ p S, e = .returned (.tuple #[.pointer (some p), .int .i64 0]) ∧ BufP w' p S (List.replicate n 0) ∧ (∀ x ∈ S, w.heap.size ≤ x) ∧ Below w.heap.size w w' := by
  have hsz := checkSize_any (n : Int) w
  rw [show sizeErrM (n : Int) = 0 by unfold sizeErrM; rw [show sizeOk (n : Int) = true from decide_eq_true (by omega)]; rfl] at hsz
  go_enter Tryz.func4, Tryz.ntmps4
  go_wp2_with (first | (go_at_call 18; refine hsz.mono ?_; rintro e w1 ⟨rfl, rfl⟩) | (refine wpList_makeInts w.heap.size w n rfl _ _ rfl _ _ rfl rfl rfl rfl (by omega) (Below.refl _ _) (Nat.le_refl _) ?_; intro w1 hown1 hbel1 hlt1 _hx1; obtain ⟨har1, -, -⟩ := hown1.arr; clear hown1 _hx1))
  go_ret2
  exact ⟨_, _, rfl, ⟨w1.heap.size, w.heap.size, rfl, rfl, by omega, by rw [List.length_replicate]; exact BoxR.of (Boxed.new w1 _ _), har1.alloc _⟩, by simp; omega, hbel1.alloc (by omega) _⟩
set_option maxHeartbeats 1000000 in
theorem soft_get {t : TypeId} {r : List Value} {w : World} {p : Addr} {S : List Nat} {s : List Int} (hB : BufR t r w p S s) (h1 : 1 ≤ s.length) (hn : s.length ≤ 4096) :
    Calls Tryz.prog 10 #[.pointer (some p)] w fun e w' => ∃ g', e = .returned (.slice (some ⟨g', 0, none⟩) s.length s.length) ∧ ArrAt .i64 3 w' g' s ∧ w.heap.size ≤ g' ∧ Below w.heap.size w w' := by
  obtain ⟨b, g, rfl, rfl, hne, hb, hg⟩ := hB
  have hc := hb.cell
  obtain ⟨n, en⟩ : ∃ n, n = s.length := ⟨_, rfl⟩
  have HN := hid en
  rw [← en] at h1 hn hc hb
  rw [← en]
  clear en
  go_enter Tryz.func10, Tryz.ntmps10
  go_wp2_with (first
    | (refine wpList_makeInts w.heap.size w n rfl _ _ rfl _ _ rfl rfl rfl rfl (by omega) (Below.refl _ _) (Nat.le_refl _) ?_; intro w1 hown1 hbel1 hlt1 _hx1; obtain ⟨har1, -, -⟩ := hown1.arr; clear hown1 _hx1; have hc1 := (hbel1.cell (World.block_lt_of_cell? w _ hc)).trans hc)
    | (refine wpList_copyInts har1 (by simp) (src_cells (hg.below hbel1 hg.lt) HN.out.symm) HN.out.symm (Nat.le_refl _) rfl _ _ rfl rfl rfl ?_; intro w2 har2 hk2))
  go_ret
  refine ⟨w.heap.size, rfl, ?_, Nat.le_refl _, hbel1.trans (hk2.below hbel1.size (by simp))⟩
  rwa [List.take_of_length_le (by rw [← HN.out]; exact Nat.le_refl _)] at har2
set_option maxHeartbeats 1000000 in
/-- 'Add' of what may not be told. -/
theorem add_bad {w : World} {p : Addr} (a : Option Addr) (c : Nat) (xs : List Int) (v : Int) (ha : Rd .i64 w a xs) (hz : xs.length ≤ maxLen) (ht : tellOk xs v = false) :
    Calls Tryz.prog 7 #[.pointer (some p), .slice a xs.length c, .int .i64 v] w fun e w' => e = .returned (.int .i64 1) ∧ Below w.heap.size w w' := by
  have hB0 : Below w.heap.size w (w.alloc (.cells #[.slice a xs.length c] 22)) := (Below.refl _ w).alloc (Nat.le_refl _) _
  have hck := csoft_any xs a c (w.alloc (.cells #[.slice a xs.length c] 22)) (ha.below hB0) hz
  have hvr := checkVersion_any v (w.alloc (.cells #[.slice a xs.length c] 22))
  have hz' : xs.length ≤ 9223372036854775807 := by unfold maxLen at hz; omega
  cases h1 : softOk xs with
  | false =>
    rw [show softErr xs = 1 by unfold softErr; rw [h1]; rfl] at hck
    clear hvr ht h1 hz
    go_enter Tryz.func7, Tryz.ntmps7
    go_wp2_with (first | (go_at_call 20; refine hck.mono ?_; rintro e w1 ⟨rfl, rfl⟩))
    go_ret
    exact ⟨rfl, hB0⟩
  | true =>
    rw [show softErr xs = 0 by unfold softErr; rw [h1]; rfl] at hck
    by_cases h2 : 4096 < xs.length
    · have d2 : decide ((4096 : Int) < (xs.length : Int)) = true := decide_eq_true (by omega)
      clear hvr ht h1 h2 hz
      go_enter Tryz.func7, Tryz.ntmps7
      go_wp2_with (first | (go_at_call 20; refine hck.mono ?_; rintro e w1 ⟨rfl, rfl⟩))
      go_ret
      exact ⟨rfl, hB0⟩
    · have d2 : decide ((4096 : Int) < (xs.length : Int)) = false := decide_eq_false (by omega)
      have h3 : verOk v = false := by
        cases h : verOk v with
        | false => rfl
        | true => unfold tellOk at ht; rw [h1, h, decide_eq_true (show xs.length ≤ 4096 by omega)] at ht; cases ht
      rw [show verErr v = 1 by unfold verErr; rw [h3]; rfl] at hvr
      clear ht h1 h2 h3 hz
      go_enter Tryz.func7, Tryz.ntmps7
      go_wp2_with (first | (go_at_call 20; refine hck.mono ?_; rintro e w1 ⟨rfl, rfl⟩) | (go_at_call 21; refine hvr.mono ?_; rintro e w1 ⟨rfl, rfl⟩))
      go_ret
      exact ⟨rfl, hB0⟩
end Go.Proofs.YtplkmkbambbemaeGreatDoor
