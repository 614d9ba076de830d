import Derived.Test.YtjpohfghibhkiadGwD
import Derived.Test.YtjpohfghibhkiadGridP
namespace Go.Proofs.Ytjpohfghibhkiad
open Go.ChangeShapes Go.WideShapes Go.ChangeAt Go.RowKit

/-! THE PROGRAM'S placesOf. -/

theorem has_block {B : Int} {s : Sh} (h : shOk B s = true) (z t : Nat) : hasM s (z : Int) (t : Int) = hasM s ((12 * (z / 12) : Nat) : Int) (t : Int) := by
  have := of_decide_eq_true h
  unfold hasM
  rw [decide_eq_decide]
  omega
theorem own_block {B : Int} {ss : List Sh} (z t : Nat) : ∀ k, (∀ i, i < k → shOk B (shAt ss i) = true) → ownTo ss (z : Int) (t : Int) k = ownTo ss ((12 * (z / 12) : Nat) : Int) (t : Int) k
  | 0, _ => rfl
  | k + 1, h => by rw [ownTo, ownTo, own_block z t k (fun i hi => h i (by omega)), has_block (h k (by omega)) z t]
theorem own_user {B : Int} {ss : List Sh} {tone t : Int} : ∀ k, (∀ i, i < k → shOk B (shAt ss i) = true) → 0 < (ownTo ss tone t k).2 → 1 ≤ (ownTo ss tone t k).1 ∧ (ownTo ss tone t k).1 ≤ 16
  | 0, _, h => by simp [ownTo] at h
  | k + 1, h, hc => by
    rw [ownTo] at hc ⊢
    by_cases e : hasM (shAt ss k) tone t = true
    · rw [if_pos e]
      have := of_decide_eq_true (h k (by omega))
      exact ⟨this.1, this.2.1⟩
    · rw [if_neg e] at hc ⊢
      exact own_user k (fun i hi => h i (by omega)) hc
theorem own_far {B : Int} {ss : List Sh} {z t : Int} (hz : 12 * B ≤ z) : ∀ k, (∀ i, i < k → shOk B (shAt ss i) = true) → (ownTo ss z t k).2 = 0
  | 0, _ => rfl
  | k + 1, h => by
    have := of_decide_eq_true (h k (by omega))
    rw [ownTo, if_neg ?_]
    · exact own_far hz k (fun i hi => h i (by omega))
    · unfold hasM
      rw [decide_eq_true_eq]
      omega
theorem place_tab {B : Int} {ss : List Sh} (hok : ∀ i, i < ss.length → shOk B (shAt ss i) = true) {who : Int} (hu : userM who = true) (z t : Nat) (hz : z < 144) : placeOf ss who (z : Int) (t : Int) = (decide (ownF ss ss.length (t * 12 + z / 12) = who) && !pilotM (z : Int) (t : Int)) := by
  have hu' := of_decide_eq_true hu
  have e1 : (t * 12 + z / 12) % 12 = z / 12 := by omega
  have e2 : (t * 12 + z / 12) / 12 = t := by omega
  unfold placeOf ownM ownF
  rw [e1, e2, own_block z t ss.length hok]
  by_cases e : (ownTo ss ((12 * (z / 12) : Nat) : Int) (t : Int) ss.length).1 = who
  · have h0 : (ownTo ss ((12 * (z / 12) : Nat) : Int) (t : Int) ss.length).2 ≠ 0 := fun h => by
      have := (own_zero ss.length hok).2 h
      omega
    rw [decide_eq_true e, decide_eq_true (show 0 < (ownTo ss ((12 * (z / 12) : Nat) : Int) (t : Int) ss.length).2 by omega), Bool.true_and]
  · rw [decide_eq_false e, Bool.false_and, Bool.and_false]
theorem rowOf_more {ss : List Sh} {who : Int} {t N : Nat} (h : ∀ z, N ≤ z → placeOf ss who (z : Int) (t : Int) = false) : ∀ m, rowOf ss who t (N + m) = rowOf ss who t N
  | 0 => rfl
  | m + 1 => by
    rw [← Nat.add_assoc, rowOf_succ, h (N + m) (by omega), rowOf_more h m]
    simp
theorem places_144 {B : Int} {ss : List Sh} (hok : ∀ i, i < ss.length → shOk B (shAt ss i) = true) (hB : 1 ≤ B ∧ B ≤ 12) (who : Int) : placesOfM 144 ss who = placesOfM (12 * B.toNat) ss who := by
  unfold placesOfM placesTo
  congr 1
  funext t
  have h := rowOf_more (ss := ss) (who := who) (t := t) (N := 12 * B.toNat) (fun z hz => by
    unfold placeOf ownM
    rw [own_far (by omega) ss.length hok]
    rfl) (144 - 12 * B.toNat)
  rw [show 12 * B.toNat + (144 - 12 * B.toNat) = 144 by omega] at h
  exact h
theorem places_stranger {B : Int} {ss : List Sh} (hok : ∀ i, i < ss.length → shOk B (shAt ss i) = true) {who : Int} (hu : userM who = false) (N : Nat) : placesOfM N ss who = [] := by
  have hu' := of_decide_eq_false hu
  have hp : ∀ z t : Int, placeOf ss who z t = false := fun z t => by
    unfold placeOf ownM
    by_cases hc : 0 < (ownTo ss z t ss.length).2
    · have := own_user ss.length hok hc
      rw [decide_eq_false (show ¬ (ownTo ss z t ss.length).1 = who by omega), Bool.false_and, Bool.and_false]
    · rw [decide_eq_false hc, Bool.false_and]
  unfold placesOfM placesTo
  rw [List.flatMap_eq_nil_iff]
  intro t _
  unfold rowOf
  rw [List.map_eq_nil_iff, List.filter_eq_nil_iff]
  intro z _
  rw [hp]
  decide

def rowF (f : Nat → Int) (t : Nat) : List Int := (List.range 12).map fun b => f (t * 12 + b)
theorem rowF_length (f : Nat → Int) (t : Nat) : (rowF f t).length = 12 := by simp [rowF]
theorem rowF_at (f : Nat → Int) (t : Nat) {b : Nat} (hb : b < 12) : (rowF f t).getD b 0 = f (t * 12 + b) := by simp [rowF, List.getD, hb]
theorem run_loadN {ρ : Operand → Value} (w : World) {o : Oper} {x : Operand} {g t : Nat} {f : Nat → Int} (ho : o.op = .load 59 x) (h : ρ x = .pointer (some ⟨g, t * 12, none⟩)) (hA : ArrAt .i64 61 w g (tabF f)) (ht : t < 14) : (execOp ρ o).run Try.prog w = .ok (.value (.agg ((rowF f t).map (Value.int .i64)).toArray)) w := by
  unfold execOp
  have hr := run_loadVar_mid (P := Try.prog) w g (t * 12) 59 ((rowF f t).map (Value.int .i64)) _ (fun j v hj => by
    have hj12 : j < 12 := by
      rcases Nat.lt_or_ge j 12 with h | h
      · exact h
      · rw [List.getElem?_eq_none (by rw [List.length_map, rowF_length]; exact h)] at hj; cases hj
    have := hA.cell (j := t * 12 + j) (by rw [tabF_length]; omega)
    rw [tabF_at _ (by omega)] at this
    rw [this]
    have e := rowF_at f t hj12
    simp only [List.getElem?_map] at hj
    rw [List.getD_eq_getElem?_getD] at e
    rw [List.getElem?_eq_getElem (by rw [rowF_length]; exact hj12)] at hj e
    simp at hj e
    rw [← e, hj]) Try.underlying59 rfl (by kernel_rfl)
  simp only [ho, h, Instr.loadAt, Instr.sureAddr, Sem.run_bind, Sem.run_pure, Result.andThen_ok, hr]
theorem run_allocN {ρ : Operand → Value} (w : World) {o : Oper} (ho : o.op = .alloc 59) : (execOp ρ o).run Try.prog w = .ok (.value (.pointer (some ⟨w.heap.size, 0, none⟩))) (w.alloc (.cells ((List.replicate 12 (0 : Int)).map (Value.int .i64)).toArray 59)) := by
  unfold execOp
  simp only [ho]
  simp [go_sem]
theorem run_storeN {ρ : Operand → Value} (w : World) {o : Oper} {x y : Operand} {g : Nat} {L M : List Int} (ho : o.op = .store 59 x y) (h : ρ x = .pointer (some ⟨g, 0, none⟩)) (h' : ρ y = .agg (L.map (Value.int .i64)).toArray) (hM : ArrAt .i64 59 w g M) (hl : L.length = 12) (hm : M.length = 12) : (execOp ρ o).run Try.prog w = .ok .skip (w.setRow g (L.map (Value.int .i64)).toArray) := by
  unfold execOp
  have hr := run_storeVar_row (P := Try.prog) w g 59 59 _ (L.map (Value.int .i64)).toArray hM (by rw [List.size_toArray, List.length_map, hl]; kernel_rfl) (by simp [hl, hm]) (by simp [Value.oneCell'])
  simp only [ho, h, h', Instr.storeAt, Instr.sureAddr, Sem.run_bind, Sem.run_pure, Result.andThen_ok, hr]

theorem OwnT.ne {T T' : TypeId} {k : IntKind} {w : World} {B g : Nat} {v : Value} {ps : List (Int × Int)} {L : List Int} (h : OwnT T w B v ps) (hA : ArrAt k T' w g L) (hT : T ≠ T') : v.ownBlock ≠ some g := by
  intro e
  rcases h.2 with ⟨rfl, h0⟩ | ⟨g', cap, cur, rfl, _, h3, _⟩
  · cases e
  · have e' : g' = g := by simpa [Value.ownBlock] using e
    subst e'
    unfold ArrAt at hA
    rw [h3] at hA
    simp at hA
    exact hT hA.2

set_option maxRecDepth 100000 in
set_option maxHeartbeats 4000000 in
theorem placesOf_any (B who : Int) (ss : List Sh) (g : Nat) (w : World) (hA : ArrAt .i64 61 w g (tabF (ownF ss ss.length))) (hB : 1 ≤ B ∧ B ≤ 12) (hok : ∀ i, i < ss.length → shOk B (shAt ss i) = true) :
    Calls Try.prog 22 #[.pointer (some ⟨g, 0, none⟩), .int .i64 who] w fun e w' => ∃ v, e = .returned v ∧ OwnT 39 w' w.heap.size v (placesOfM (12 * B.toNat) ss who) ∧ Below w.heap.size w w' := by
  obtain ⟨i0, hi, hz0, hz1, hz2⟩ := info_parts Try.infoPl
  have hU := fun wz => isUser_any who wz
  have HST := hid (fun (h : userM who = false) => places_stranger hok h (12 * B.toNat))
  have HPT := hid (fun (h : userM who = true) => place_tab (ss := ss) hok h)
  have HALL := hid (places_144 hok hB who)
  obtain ⟨u, eu⟩ : ∃ u, u = userM who := ⟨_, rfl⟩
  simp only [← eu] at hU HST HPT
  clear eu hok
  go_enter Try.func22, Try.ntmps22
  go_wp2_with fail
  refine (hU _).mono ?_
  rintro e w1 ⟨rfl, hw1⟩
  have hA1 := hA.below hw1 hA.lt
  clear hU
  cases u with
  | false =>
    have HV := hid (HST.out rfl)
    clear HST HPT
    go_wp2_with fail
    go_ret
    exact ⟨_, rfl, by rw [HV.out]; exact OwnT.nil _ _ _, hw1⟩
  | true =>
    have HPT' := hid (HPT.out rfl)
    clear HST HPT hA
    have hgl := hA1.lt
    have hmix : Try.prog.follows .mixedOrders = true := by kernel_rfl
    obtain ⟨F, eF⟩ : ∃ F, F = ownF ss ss.length := ⟨_, rfl⟩
    rw [← eF] at hA1 HPT'
    clear eF
    go_wp2_with fail
    go_loopw [5, 16] (fun v q wr => ∃ t : Nat, t ≤ 14 ∧ q = .int .i64 t ∧ OwnT 39 wr w1.heap.size v (placesTo 144 ss who t) ∧ Below w1.heap.size w1 wr) (fun _ q _ => 14 - (intOf q).toNat)
    case atStart => exact ⟨0, Nat.zero_le _, rfl, by simpa [placesTo] using OwnT.nil _ _ _, Below.refl _ _⟩
    case round =>
      obtain ⟨t, ht, rfl, hO, hbel⟩ := hrel
      by_cases htl : t < 14
      · have HTL := hid htl
        have HD14 := hid (show decide ((t : Int) < 14) = true from decide_eq_true (by omega))
        have HSUC := hid (placesTo_succ 144 ss who t)
        have HLEN := hid (placesTo_length 144 ss who t)
        obtain ⟨A, eA⟩ : ∃ A, A = placesTo 144 ss who t := ⟨_, rfl⟩
        rw [← eA] at hO HSUC HLEN
        have hAr := hA1.below hbel hgl
        clear eA
        go_upto_region 6 with fail
        have hOr := hO
        refine wp_mono (region_growU (Q := fun e a' w' => e = .normal ∧ ∃ gr, w1.heap.size ≤ gr ∧ a' = { tmps := (setAll _ ([(18, .int .i64 t), (19, .pointer (some ⟨g, 0, none⟩)), (20, .pointer (some ⟨g, t * 12, none⟩)), (21, .agg ((rowF F t).map (Value.int .i64)).toArray)] ++ (7, .pointer (some ⟨gr, 0, none⟩)) :: [(6, .int .i64 t)])).toArray, defers := [] } ∧ ArrAt .i64 59 w' gr (rowF F t) ∧ Below wr.heap.size wr w') 7 6 4 [(18, .int .i64 t), (19, .pointer (some ⟨g, 0, none⟩)), (20, .pointer (some ⟨g, t * 12, none⟩)), (21, .agg ((rowF F t).map (Value.int .i64)).toArray)] 7 [(6, .int .i64 t)]
          [[16], [14], [19, 16], [20], [], [18]] [5, 2, 3, 6, 6, 6] (fun x wz => ∃ gr, wr.heap.size ≤ gr ∧ x = .pointer (some ⟨gr, 0, none⟩) ∧ ArrAt .i64 59 wz gr (List.replicate 12 0)) wr hmix rfl (by decide) rfl rfl (show ([18, 19, 20, 21, 7, 6] : List Nat).Nodup by decide) (by kernel_rfl) (by kernel_rfl) (by kernel_rfl) (by kernel_rfl) (by kernel_rfl) (by kernel_rfl) (fun x wz wz' h hg => by
            obtain ⟨gr, h1, h2, h3⟩ := h
            exact ⟨gr, h1, h2, (hg.block gr h3.lt (by simp)).trans h3⟩) (fun i' hi' x ac wc hbc hx hr Q K hK1 hK => by
            have h6 : i' = 0 ∨ i' = 1 ∨ i' = 2 ∨ i' = 3 ∨ i' = 4 ∨ i' = 5 := by omega
            rcases h6 with rfl | rfl | rfl | rfl | rfl | rfl
            · exact op_value rfl rfl (run_moveQ wc rfl (hr 16 (by decide))) (hK (by decide) wc (grownG wc))
            · exact op_value rfl rfl (run_nilG wc rfl (hr 14 (by decide))) (hK (by decide) wc (grownG wc))
            · exact op_value rfl rfl (run_idxO wc rfl (hr 19 (by decide)) (hr 16 (by decide)) htl) (hK (by decide) wc (grownG wc))
            · exact op_value rfl rfl (run_loadN wc rfl (hr 20 (by decide)) (hAr.below hbc hAr.lt) htl) (hK (by decide) wc (grownG wc))
            · exact op_value rfl rfl (run_allocN wc rfl) (hK1 rfl _ _ ⟨rfl, rfl, rfl, by simp, fun k hk _ => Below.heap_alloc _ _ _ hk⟩ ⟨wc.heap.size, hbc.size, rfl, arr_new .i64 59 wc (List.replicate 12 0)⟩)
            · exact op_value rfl rfl (run_assignG wc rfl (hr 18 (by decide))) (hK (by decide) wc (grownG wc)))
          (fun x wc hbc hx => by
            obtain ⟨gr, h1, rfl, h3⟩ := hx
            exact op_skip rfl rfl (run_storeN wc rfl (eval_setAll 7 (show ([18, 19, 20, 21, 7, 6] : List Nat).Nodup by decide) (by kernel_rfl)) (eval_setAll 21 (show ([18, 19, 20, 21, 7, 6] : List Nat).Nodup by decide) (by kernel_rfl)) h3 (rowF_length F t) (by simp)) ⟨rfl, gr, Nat.le_trans hbel.size h1, rfl, setRow_heap _ _ _ _ _ _ h3, below_setRow hbc h1 _⟩)) ?_
        rintro e a' w' ⟨rfl, gr, hgr, rfl, hrow, hbw'⟩
        have hO' := hOr.below hbw'
        have hbel' := hbel.trans (hbw'.mono hbel.size)
        clear hbw' hbel hAr hO hOr
        have hrl := hrow.lt
        dsimp only [setAll, List.set, List.append_nil, List.cons_append, List.nil_append]
        clear htl
        go_wp2_with fail
        go_loopw [5, 22] (fun v q wr => ∃ z : Nat, z ≤ 144 ∧ q = .int .i64 z ∧ OwnT 39 wr w1.heap.size v (A ++ rowOf ss who t z) ∧ ArrAt .i64 59 wr gr (rowF F t) ∧ Below w1.heap.size w1 wr) (fun _ q _ => 144 - (intOf q).toNat)
        case atStart => exact ⟨0, Nat.zero_le _, rfl, by simpa [rowOf] using hO', hrow, hbel'⟩
        case round =>
          clear hO' hrow hbel' hrl
          obtain ⟨z, hz, rfl, hO, hrow, hbz⟩ := hrel
          by_cases hlt : z < 144
          · have HLT := hid hlt
            have hq : (z : Int).tdiv 12 = ((z / 12 : Nat) : Int) := by rw [Int.tdiv_eq_ediv_of_nonneg (by omega)]; omega
            have hz12 : z / 12 < 12 := by omega
            have hcr : wr.cell? ⟨gr, z / 12, none⟩ = some (.int .i64 (F (t * 12 + z / 12))) := by
              have := hrow.cell (j := z / 12) (by rw [rowF_length]; exact hz12)
              rw [rowF_at F t hz12] at this
              exact this
            have hal := (Below.refl wr.heap.size wr).alloc (Nat.le_refl _) (.cells #[.int .i64 z, .int .i64 t] 39)
            have p0 : (wr.alloc (.cells #[.int .i64 z, .int .i64 t] 39)).cell? ⟨wr.heap.size, 0, none⟩ = some (.int .i64 z) := by rw [cell_of_row _ _ _ _ _ _ (heap_alloc_new wr _)]; rfl
            have p1 : (wr.alloc (.cells #[.int .i64 z, .int .i64 t] 39)).cell? ⟨wr.heap.size, 1, none⟩ = some (.int .i64 t) := by rw [cell_of_row _ _ _ _ _ _ (heap_alloc_new wr _)]; rfl
            have s0 := (hal.cell (World.block_lt_of_cell? wr _ hcr)).trans hcr
            have hO' := hO.below hal
            have hrow' := hrow.below hal hrow.lt
            have hbz2 := hbz.trans (hal.mono hbz.size)
            have hpl := fun wz => isPilot_any (z : Int) (t : Int) wz (by omega)
            have HST := hid (rowOf_succ ss who t z)
            have HPO := hid (HPT'.out z t hlt)
            have HLN : Hid ((A ++ rowOf ss who t z).length < 1000000) := by
              unfold Hid
              rw [List.length_append]
              have e1 := HLEN.out
              have e2 := rowOf_length ss who t z
              have e3 := HTL.out
              omega
            obtain ⟨y, ey⟩ : ∃ y, y = F (t * 12 + z / 12) := ⟨_, rfl⟩
            rw [← ey] at s0 HPO
            obtain ⟨pb, epb⟩ : ∃ pb, pilotM (z : Int) (t : Int) = pb := ⟨_, rfl⟩
            rw [epb] at HPO
            simp only [epb] at hpl
            obtain ⟨zq, ezq⟩ : ∃ zq, zq = z / 12 := ⟨_, rfl⟩
            rw [← ezq] at s0 hq hz12
            clear ey epb hO hbz hal hcr ezq hrow
            by_cases hw0 : y = who
            · have d1 : (y == who) = true := by simpa using hw0
              have HW0 := hid hw0
              clear hw0
              go_wp2_with fail
              refine (hpl _).mono ?_
              rintro e w5 ⟨rfl, hb5⟩
              generalize wr.alloc (.cells #[.int .i64 z, .int .i64 t] 39) = wl at *
              generalize wr.heap.size = gP at *
              have t0 := (hb5.cell (World.block_lt_of_cell? wl _ p0)).trans p0
              have t1 := (hb5.cell (World.block_lt_of_cell? wl _ p1)).trans p1
              have hO5 := hO'.below hb5
              have hrow5 := hrow'.below hb5 hrow'.lt
              have hbz5 := hbz2.trans (hb5.mono hbz2.size)
              clear p0 p1 hO' hbz2 hpl hb5 s0 hrow'
              cases pb with
              | true =>
                have HV := hid (show rowOf ss who t (z + 1) = rowOf ss who t z by rw [HST.out, HPO.out, decide_eq_true HW0.out]; simp)
                rw [← HV.out] at hO5
                clear HST HPO
                go_wp2_with fail
                go_roundw
                case rel =>
                  have := HLT.out
                  first | exact ⟨z + 1, by omega, by go_num, hO5, hrow5, hbz5⟩ | ((repeat apply Exists.intro); exact ⟨⟨z + 1, by omega, by go_num, hO5, hrow5, hbz5⟩, by first | rfl | (rw [HD14.out]; rfl)⟩)
                case measure =>
                  have := HLT.out
                  simp [intOf]
                  omega
              | false =>
                have HV := hid (show A ++ rowOf ss who t (z + 1) = (A ++ rowOf ss who t z) ++ [((z : Int), (t : Int))] by rw [HST.out, HPO.out, decide_eq_true HW0.out, List.append_assoc]; simp)
                rw [List.append_assoc] at HV
                clear HST HPO
                go_wp2_with (first | (at_builtin; refine wpList_pushT Try.underlying29 hi hz0 hz1 hz2 w1.heap.size w1 ((z : Int), (t : Int)) hO5 rfl _ _ rfl rfl rfl HLN.out hbz5 hbz5.size ?_))
                intro v7 w7 hO7 hbel7 hgr7
                rw [← HV.out] at hO7
                have hrow7 : ArrAt .i64 59 w7 gr (rowF F t) := (hgr7.block gr hrow5.lt (fun e => hO5.ne hrow5 (by decide) e.symm)).trans hrow5
                clear hO5 hbz5 t0 t1 hrow5 hgr7
                go_wp2_with fail
                go_roundw
                case rel =>
                  have := HLT.out
                  first | exact ⟨z + 1, by omega, by go_num, hO7, hrow7, hbel7⟩ | ((repeat apply Exists.intro); exact ⟨⟨z + 1, by omega, by go_num, hO7, hrow7, hbel7⟩, by first | rfl | (rw [HD14.out]; rfl)⟩)
                case measure =>
                  have := HLT.out
                  simp [intOf]
                  omega
            · have d1 : (y == who) = false := by simpa using hw0
              have HV := hid (show rowOf ss who t (z + 1) = rowOf ss who t z by rw [HST.out, HPO.out, decide_eq_false hw0]; simp)
              clear HST HPO hw0
              go_wp2_with fail
              go_roundw
              case rel =>
                have := HLT.out
                rw [← HV.out] at hO'
                first | exact ⟨z + 1, by omega, by go_num, hO', hrow', hbz2⟩ | ((repeat apply Exists.intro); exact ⟨⟨z + 1, by omega, by go_num, hO', hrow', hbz2⟩, by first | rfl | (rw [HD14.out]; rfl)⟩)
              case measure =>
                have := HLT.out
                simp [intOf]
                omega
          · obtain rfl : z = 144 := by omega
            rw [← HSUC.out] at hO
            go_wp2_with fail
            go_roundw
            case rel => exact ⟨t + 1, by have := HTL.out; omega, by go_num, hO, hbz⟩
            case measure => have := HTL.out; simp [intOf]; omega
      · obtain rfl : t = 14 := by omega
        have HV := hid (show placesTo 144 ss who 14 = placesOfM (12 * B.toNat) ss who from HALL.out)
        go_wp2_with fail
        go_ret
        exact ⟨_, rfl, by rw [← HV.out]; exact hO.mono hw1.size, hw1.trans (hbel.mono hw1.size)⟩
end Go.Proofs.Ytjpohfghibhkiad
