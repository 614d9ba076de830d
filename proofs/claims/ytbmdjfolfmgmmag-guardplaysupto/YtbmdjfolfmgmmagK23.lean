import Derived.Test.YtbmdjfolfmgmmagK18
import Derived.Test.YtbmdjfolfmgmmagK22
namespace Go.Proofs.Ytbmdjfolfmgmmag
open Go.ChangeShapes Go.WideShapes Go.ChangeAt Go.RowKit Go.Maps Go.Sort Go.Shelf Go.ChangeMaps
theorem Try.sortsA (m : Nat) : AnyZI.SortsIn Try.prog Try.sortedA_ren Fence.wide m :=
  ⟨fun blk off cap ss W hH hblk hsz => callsIn_wide.2 (AnyM.slices_Sort_int Try.sortA blk off cap ss W hH hblk hsz),
   fun p cap W => callsIn_wide.2 (AnyM.slices_Sort_int_none Try.sortA p cap W)⟩
theorem keys_any (b : Nat) (W : World) : Calls Try.prog 35 #[.map (some b)] W fun e w' => e = .returned (.func (.func 48) #[] #[.pointer (some ⟨W.heap.size, 0, none⟩)]) ∧ w' = W.alloc (.cells #[.map (some b)] 59) :=
  (callsIn_wide (n := 5)).1 (AnyZI.keys_in Try.keysA Fence.wide 5 trivial rfl (some b) W)
theorem sorted_any {b nn : Nat} {D0 : DataW Value} {R : Value → Option (DataW Value × List MemPlace)} {w : World} (hown : w.ownsMap Try.prog 3 R b nn D0) (hmax : Maps.size D0 ≤ 16777216) :
    Calls Try.prog 34 #[.func (.func 48) #[] #[.pointer (some ⟨w.heap.size, 0, none⟩)]] (w.alloc (.cells #[.map (some b)] 59)) fun e w' => ∃ (v : Value) (ss : List Int), e = .returned v ∧ ss.Perm (intKeys D0) ∧ w'.ownsRow (w.alloc (.cells #[.map (some b)] 59)).heap.size 3 1 v ss.length ((ss.mergeSort (fun x y => decide (x ≤ y))).map encZ) ∧ (v = .slice none 0 0 ↔ ss = []) ∧ Below (w.alloc (.cells #[.map (some b)] 59)).heap.size (w.alloc (.cells #[.map (some b)] 59)) w' := by
  have hbl := hown.lt
  have hseq : SeqGives Fence.wide 2 Try.prog 48 #[.pointer (some ⟨w.heap.size, 0, none⟩)] encZ (fun ss => ss.Perm (intKeys D0)) (Maps.size D0) (w.alloc (.cells #[.map (some b)] 59)) :=
    AnyZI.keys_gives (ρ := Try.keysA_ren) { Try.keysA with } Fence.wide _ trivial rfl (by omega) w.heap.size b nn D0 _ (by simp) (by simp) (by
      obtain ⟨es, clock, hb, Ft, hs, hD⟩ := hown
      exact ⟨es, clock, (Below.heap_alloc _ _ b hbl).trans hb, Ft, hs, hD⟩)
  have cS := AnyZI.sorted_in Try.sortedA Fence.wide 5 trivial trivial trivial trivial rfl (by omega) (Try.sortsA _) (enters_of Try.func47 (by kernel_rfl) rfl) 48 #[.pointer (some ⟨w.heap.size, 0, none⟩)] trivial (enters_of Try.func48 (by kernel_rfl) rfl) _ _ (by unfold maxLen; omega) (by omega) _ hseq
  change CallsIn _ _ Try.prog 34 _ _ _ at cS
  exact callsIn_wide.1 cS
theorem steps_rise {M : Nat → Option ByteArray} {b : Bool} : ∀ ks F, StepsG M b F ks → ks.Pairwise (· < ·) ∧ (∀ k ∈ ks, F ≤ k ∧ (M k).isSome = true)
  | [], _, _ => ⟨List.Pairwise.nil, fun k hk => absurd hk (by simp)⟩
  | k :: ks, F, h => by
    obtain ⟨h1, h2, _, _, h5⟩ := h
    obtain ⟨a, c⟩ := steps_rise ks (k + 1) h5
    refine ⟨List.Pairwise.cons (fun j hj => by have := (c j hj).1; omega) a, fun j hj => ?_⟩
    rcases List.mem_cons.1 hj with rfl | hj
    · exact ⟨h1, h2⟩
    · have := c j hj
      exact ⟨by omega, this.2⟩
theorem steps_all {M : Nat → Option ByteArray} : ∀ ks F, StepsG M true F ks → ∀ k, F ≤ k → (M k).isSome = true → k ∈ ks
  | [], F, h, k, hk, hs => by
    have h' : ∀ k, F ≤ k → M k = none := h
    rw [h' k hk] at hs
    cases hs
  | j :: ks, F, h, k, hk, hs => by
    obtain ⟨h1, h2, h3, _, h5⟩ := h
    rcases Nat.lt_or_ge k j with q | q
    · rw [h3 k hk q] at hs
      cases hs
    · rcases Nat.lt_or_ge j k with q2 | q2
      · exact List.mem_cons_of_mem _ (steps_all ks (j + 1) h5 k (by omega) hs)
      · have : k = j := by omega
        subst this
        exact List.mem_cons_self
/-- The keys, sorted, are the steps. -/
theorem sort_steps {w : World} {b nn : Nat} {D : DataW Value} {M : Nat → Option ByteArray} {F : Nat} {ks : List Nat} {ss : List Int} (ho : w.ownsMap Try.prog 3 heldG b nn D) (hT : Tells D M) (hp : ∀ k, k < F → M k = none) (ht : ∀ k, 16777216 ≤ k → M k = none) (hs : StepsG M true F ks) (hss : ss.Perm (intKeys D)) :
    ss.mergeSort (fun x y => decide (x ≤ y)) = ks.map (fun k => ((k : Nat) : Int)) ∧ ss.length = ks.length := by
  obtain ⟨hr, hm⟩ := steps_rise ks F hs
  have hmi : (ks.map (fun k => ((k : Nat) : Int))).Pairwise (· < ·) := by
    rw [List.pairwise_map]
    exact hr.imp (fun h => by omega)
  have hnd : (ks.map (fun k => ((k : Nat) : Int))).Nodup := hmi.imp (fun h => by omega)
  have hc : CollectedI D (fun _ => false) (ks.map (fun k => ((k : Nat) : Int))) := by
    refine ⟨hnd, fun x => ?_⟩
    constructor
    · intro hx
      obtain ⟨k, hk, rfl⟩ := List.mem_map.1 hx
      have h2 := (hm k hk).2
      have hk24 : k < 16777216 := by
        rcases Nat.lt_or_ge k 16777216 with q | q
        · exact q
        · rw [ht k q] at h2; cases h2
      exact ⟨by rw [hT.has k (by omega)]; exact h2, rfl⟩
    · rintro ⟨hx, _⟩
      obtain ⟨h0, h1⟩ := hT.keys x hx
      obtain ⟨k, rfl⟩ : ∃ k : Nat, x = (k : Int) := ⟨x.toNat, by omega⟩
      rw [hT.has k (by omega)] at hx
      refine List.mem_map.2 ⟨k, steps_all ks F hs k ?_ hx, rfl⟩
      rcases Nat.lt_or_ge k F with q | q
      · rw [hp k q] at hx; cases hx
      · exact q
  have hpm : ss.Perm (ks.map (fun k => ((k : Nat) : Int))) := hss.trans (hc.perm ho Try.lawG Try.underlying3 (fun _ => rfl)).symm
  refine ⟨?_, by have := hpm.length_eq; simpa using this⟩
  have tr : ∀ a b c : Int, (decide (a ≤ b)) = true → (decide (b ≤ c)) = true → (decide (a ≤ c)) = true := fun a b c h1 h2 => by simp only [decide_eq_true_eq] at *; omega
  have to : ∀ a b : Int, (decide (a ≤ b) || decide (b ≤ a)) = true := fun a b => by simp only [Bool.or_eq_true, decide_eq_true_eq]; omega
  refine List.Perm.eq_of_pairwise (le := fun a b => (decide (a ≤ b)) = true) (fun a b _ _ h1 h2 => ?_) (List.pairwise_mergeSort tr to ss) (hmi.imp (fun h => by simp only [decide_eq_true_eq]; omega)) ((List.mergeSort_perm ss _).trans hpm)
  simp only [decide_eq_true_eq] at h1 h2
  omega
/-- The map, cleared. -/
theorem StMap.clear {w : World} {bm : Nat} {M : Nat → Option ByteArray} (h : StMap w bm M) (ty : TypeId) :
    ∃ w', (Builtin.clear_ #[59] ty #[.map (some bm)]).run Try.prog w = .ok (.tuple #[]) w' ∧ StMap w' bm (fun _ => none) ∧ Kept [bm] w w' := by
  obtain ⟨D, ⟨es, clock, hb, F, hs, hD⟩, hT⟩ := h
  refine ⟨setBlock w bm (.map #[] clock), ?_, ⟨.map [], ⟨#[], clock, heap_setBlock_same hb _, ⟨by simp, MapKept.stamped_empty clock, by simp⟩, Nat.zero_le _, rfl⟩, ⟨by rw [cntM_none]; rfl, fun _ _ => rfl, fun _ _ _ hx => absurd hx (by simp), fun _ hz => absurd hz (by simp [Maps.has])⟩⟩, ⟨rfl, rfl, rfl, by simp [setBlock], fun k _ hn => heap_setBlock_other hb _ (by simpa using hn)⟩⟩
  simp [Builtin.clear_, run_underlying Try.underlying59, MapKept.run_getObj_map hb, MapKept.run_setObj_map _ hb, Result.andThen, setBlock]
theorem endG_snoc (k : Nat) : ∀ (F : Nat) (d : List Nat), endG F (d ++ [k]) = k + 1
  | _, [] => rfl
  | _, j :: d => endG_snoc k (j + 1) d
theorem mem_end {M : Nat → Option ByteArray} {b : Bool} : ∀ ks F k, k ∈ ks → StepsG M b F ks → k < endG F ks
  | [], _, k, hk, _ => absurd hk (by simp)
  | j :: ks, F, k, hk, h => by
    obtain ⟨_, _, _, _, h5⟩ := h
    have hle : ∀ ks F, StepsG M b F ks → F ≤ endG F ks := fun ks => by
      induction ks with
      | nil => exact fun F _ => Nat.le_refl _
      | cons a l ih =>
        intro F h
        obtain ⟨q1, _, _, _, q5⟩ := h
        have := ih (a + 1) q5
        show F ≤ endG (a + 1) l
        omega
    rcases List.mem_cons.1 hk with rfl | hk
    · have := hle ks (k + 1) h5
      show k < endG (k + 1) ks
      omega
    · exact mem_end ks (j + 1) k hk h5
def FlPost (w : World) (g bm : Nat) (m : GcM) (ks : List Nat) : Ending → World → Prop := fun e w' => ∃ v, e = .returned v ∧ w'.ownsRow w.heap.size 9 1 v ks.length ((textsG m.M ks).map Value.string) ∧ Kept (gcF g bm) w w' ∧ PGc w' g bm (m.cutTo (endG m.fst ks))
set_option maxRecDepth 100000 in
set_option maxHeartbeats 1000000 in
theorem gflush_any {w : World} {g bm : Nat} {m : GcM} (h : PGc w g bm m) (ks : List Nat) (hs : StepsG m.M true m.fst ks) :
    Calls Try.prog 18 #[.pointer (some ⟨g, 0, none⟩)] w (FlPost w g bm m ks) := by
  have hend := steps_end h.ok.top ks m.fst hs h.ok.few
  obtain ⟨i0, hi, hz0, hz1, hz2⟩ := info_parts Try.infoTx
  have HP := hid h
  have HLT := hid h.lt
  have hne := h.ne
  obtain ⟨D, hoD, hTD⟩ := h.mp
  have c2 : w.cell? ⟨g, 2, none⟩ = some (.map (some bm)) := h.hd.cell 2
  have hlen := hoD.len Try.underlying59 3
  have hsz : Maps.size D ≤ 16777216 := hoD.size_le
  obtain ⟨S, eS⟩ : ∃ S, S = Maps.size D := ⟨_, rfl⟩
  rw [← eS] at hlen
  have hS : S ≤ 16777216 := by omega
  obtain ⟨hr, hm⟩ := steps_rise ks m.fst hs
  have HS := hid hs
  have HM := hid hm
  have HEND := hid hend
  have hkl : ks.length ≤ 16777216 := by omega
  have hKS : ∀ w1, Below w.heap.size w w1 → Calls Try.prog 34 #[.func (.func 48) #[] #[.pointer (some ⟨w1.heap.size, 0, none⟩)]] (w1.alloc (.cells #[.map (some bm)] 59)) fun e w' => ∃ v, e = .returned v ∧ w'.ownsRow w1.heap.size 3 1 v ks.length (ks.map fun c => Value.int .i64 ((c : Nat) : Int)) ∧ Below w1.heap.size w1 w' := fun w1 hb1 => by
    obtain ⟨D1, ho1, hT1⟩ := h.mp.kept (S := []) (Kept.of_below hb1) (by simp)
    refine (sorted_any ho1 ho1.size_le).mono ?_
    rintro e w' ⟨v, ss, rfl, hss, ho, -, hb⟩
    obtain ⟨e1, e2⟩ := sort_steps ho1 hT1 h.ok.past h.ok.top hs hss
    rw [e1, e2, List.map_map] at ho
    refine ⟨v, rfl, ?_, bthen ((Below.refl _ w1).alloc (Nat.le_refl _) _) hb⟩
    refine ⟨ho.1, ?_⟩
    rcases ho.2 with q | ⟨g9, cap, cur, q1, q2, q3⟩
    · exact .inl q
    · refine .inr ⟨g9, cap, cur, q1, ?_, q3⟩
      rw [World.size_alloc] at q2
      omega
  have HKS := hid hKS
  clear h hs hend hTD hoD eS hsz hr hm hKS
  go_enter Try.func18, Try.ntmps18
  go_wp2_with (first
    | (at_make; refine wpList_make_own _ rfl _ _ 32 rfl w.heap.size 9 i0 (.string { data := #[] }) 1 Try.underlying32 hi hz0 hz1 .i64 .i64 _ S rfl rfl rfl (by rw [hz2]; omega) (by unfold maxLen; omega) (Nat.le_refl _) ?_; intro w1 ho1 hg1; have hb1 : Below w.heap.size w w1 := ⟨hg1.os, hg1.tape, hg1.output, hg1.size, fun y hy => hg1.block y hy (by simp)⟩; have d2 : w1.cell? ⟨g, 2, none⟩ = some (.map (some bm)) := keptCellQ (S := []) (Kept.of_below hb1) c2 (by simp); have hkw := HKS.out w1 hb1)
    | (go_at_call 35; refine (keys_any bm _).mono ?_; rintro e w2 ⟨rfl, rfl⟩)
    | (go_at_call 34; refine hkw.mono ?_; rintro e w3 ⟨v3, rfl, ho3, hb3⟩; obtain ⟨a3, c3, rfl, -, -, -⟩ := row_shape ho3))
  obtain ⟨K, eK⟩ : ∃ K, K = ks.length := ⟨_, rfl⟩
  rw [← eK]
  have HEK := hid eK
  have hKl : K ≤ 16777216 := by omega
  have hs1 : w.heap.size < w1.heap.size := (row_new ho1 w.heap.size (by simp [ownB, Value.ownBlock])).2
  have hA0 : ∃ (F : Nat), w3.ownsRow w.heap.size 9 1 (.slice (some ⟨w.heap.size, 0, none⟩) 0 S) 0 ((textsG m.M (ks.take 0)).map Value.string) ∧ At w3 g 61 [.int .i64 m.key, .int .i64 (F : Int), .map (some bm)] ∧ F = endG m.fst (ks.take 0) ∧ StMap w3 bm m.M ∧ w3.ownsRow w1.heap.size 3 1 (.slice a3 ks.length c3) ks.length (ks.map fun c => Value.int .i64 ((c : Nat) : Int)) ∧ (∀ x ∈ ownB (.slice (some ⟨w.heap.size, 0, none⟩) 0 S), x ∉ ownB (.slice a3 ks.length c3)) ∧ Kept (gcF g bm) w w3 := by
    have hP3 := HP.out.kept (S := []) (Kept.of_below (bthen hb1 hb3)) (by simp)
    refine ⟨m.fst, row_kept ho1 (S := []) (Kept.of_below hb3) (by simp), hP3.hd, rfl, hP3.mp, ho3, fun x hx e => ?_, Kept.of_below (bthen hb1 hb3)⟩
    have h1 : x = w.heap.size := by simpa [ownB, Value.ownBlock] using hx
    have h2 := (row_new ho3 x e).1
    omega
  clear ho1 hg1 d2 hkw hb1 ho3 hb3 c2 hlen eK
  go_loopw [3, 19] (fun v i wr => ∃ (j F : Nat), j ≤ K ∧ i = .int .i64 j ∧ wr.ownsRow w.heap.size 9 1 v j ((textsG m.M (ks.take j)).map Value.string) ∧ At wr g 61 [.int .i64 m.key, .int .i64 (F : Int), .map (some bm)] ∧ F = endG m.fst (ks.take j) ∧ StMap wr bm m.M ∧ wr.ownsRow w1.heap.size 3 1 (.slice a3 ks.length c3) ks.length (ks.map fun c => Value.int .i64 ((c : Nat) : Int)) ∧ (∀ x ∈ ownB v, x ∉ ownB (.slice a3 ks.length c3)) ∧ Kept (gcF g bm) w wr) (fun _ i _ => K - (intOf i).toNat)
  case atStart =>
    obtain ⟨F, r⟩ := hA0
    exact ⟨0, F, Nat.zero_le _, rfl, r⟩
  case round =>
    obtain ⟨j, F, hj, rfl, ho, hA, hF, hSt, hkr, hap, hK⟩ := hrel
    clear hA0
    obtain ⟨ao, co, rfl, -, -, -⟩ := row_shape ho
    have x1 : wr.cell? ⟨g, 1, none⟩ = some (.int .i64 (F : Int)) := hA.cell 1
    have x2 : wr.cell? ⟨g, 2, none⟩ = some (.map (some bm)) := hA.cell 2
    by_cases hlt : j < K
    · have hjk : j < ks.length := by rw [← HEK.out]; exact hlt
      obtain ⟨g3, rfl, hcel⟩ := row_nats hkr hjk
      have cj := hcel j hjk
      have hmem : cAt ks j ∈ ks := by
        unfold cAt
        rw [List.getD_eq_getElem?_getD, List.getElem?_eq_getElem hjk]
        exact List.getElem_mem _
      obtain ⟨hFk, hsome⟩ := HM.out _ hmem
      obtain ⟨X, hX⟩ := Option.isSome_iff_exists.1 hsome
      have htk : ks.take (j + 1) = ks.take j ++ [cAt ks j] := by
        rw [List.take_add_one]
        simp [cAt, List.getD, hjk]
      have hk24 : cAt ks j < 16777216 := by
        rcases Nat.lt_or_ge (cAt ks j) 16777216 with q | q
        · exact q
        · rw [HP.out.ok.top _ q] at hX; cases hX
      have HTX := hid (show textsG m.M (ks.take (j + 1)) = textsG m.M (ks.take j) ++ [X] by rw [htk]; simp [textsG, hX])
      have HEN := hid (show cAt ks j + 1 = endG m.fst (ks.take (j + 1)) by rw [htk, endG_snoc])
      have hlk := (hSt.look (k := cAt ks j) (by omega) false).1 X hX
      rw [if_neg (by simp)] at hlk
      have ho3 := World.ownsRow.alloc ho (.cells #[.string X] 9)
      have HXx := hid (at_newG wr 9 [.string X])
      have HO := hid ho
      have HA := hid hA
      have HSt := hid hSt
      have HKR := hid hkr
      have HAP := hid hap
      have HK := hid hK
      have hsw := hK.size
      have HQ1 := hid (show ∀ (q : Nat) u, [Value.string X][q]? = some u → (wr.alloc (.cells #[.string X] 9)).cell? ⟨wr.heap.size, q, none⟩ = some u from fun q u hq => by rw [HXx.out.cell q]; exact hq)
      have HQ2 := hid (show ∀ u ∈ [Value.string X], u.oneCell' = true by simp [Value.oneCell'])
      have HQ3 := hid (show j + 1 ≤ maxLen by unfold maxLen; omega)
      have HQ4 := hid (show (j + 1) * 16 ≤ 140737488355328 by omega)
      have HQ5 := hid (show w.heap.size ≤ (wr.alloc (.cells #[.string X] 9)).heap.size by rw [World.size_alloc]; omega)
      generalize cAt ks j = Y at *
      clear hcel hmem hsome htk hF hkr hap hK ho hA hSt hX
      go_wp2_with (at_builtin; refine wpList_pushR (W := wr.alloc (.cells #[.string X] 9)) w.heap.size wr.heap.size Try.underlying32 hi hz0 hz1 hz2 rfl (by omega) ho3 rfl _ _ rfl rfl rfl (news := [.string X]) rfl HQ1.out HQ2.out HQ3.out HQ4.out HQ5.out ?_)
      intro v' w4 ho4 hg4 hb4
      have hK4 : Kept (ownB (.slice ao j co)) wr w4 := ((Kept.refl _ wr).alloc _).trans (Kept.grownR hg4)
      have hnb : ∀ q ∈ ownB (.slice ao j co), w.heap.size ≤ q := fun q hq => (row_new HO.out q hq).1
      have hgl := HLT.out g (by simp [gcF])
      have hbl := HLT.out bm (by simp [gcF])
      have hA4 := HA.out.kept hK4 (fun e => by have := hnb _ e; omega)
      have hS4 := HSt.out.kept hK4 (fun e => by have := hnb _ e; omega)
      have hR4 := row_kept HKR.out hK4 (fun x hx e => HAP.out x e hx)
      have z1 : w4.cell? ⟨g, 1, none⟩ = some (.int .i64 (F : Int)) := hA4.cell 1
      have zf := hA4.free 1
      obtain ⟨a', c', rfl, -, -, -⟩ := row_shape ho4
      rw [show (textsG m.M (ks.take j)).map Value.string ++ [.string X] = (textsG m.M (ks.take (j + 1))).map Value.string by rw [HTX.out, List.map_append]; rfl] at ho4
      have hap4 : ∀ x ∈ ownB (.slice a' (j + 1) c'), x ∉ ownB (.slice (some ⟨g3, 0, none⟩) ks.length c3) := fun x hx e => by
        have hx' : (Value.slice a' (j + 1) c').ownBlock = some x := by simpa [ownB] using hx
        rcases hb4 with hb | hb
        · exact HAP.out x (by simpa [ownB, ← hb] using hx') e
        · rw [hb] at hx'
          have := Option.some.inj hx'
          have := (row_new HKR.out x e).2
          rw [World.size_alloc] at *
          omega
      have hk5 : Kept [g] w4 (w4.setCell ⟨g, 1, none⟩ (.int .i64 ((Y : Int) + 1))) := (Kept.refl _ _).setCell (by simp) _
      have hA5 := hA4.setCellG 1 (.int .i64 ((Y : Int) + 1))
      have hS5 := hS4.kept hk5 (by simpa using fun e => hne e.symm)
      have ho5 := row_kept ho4 hk5 (fun q hq e => by
        rw [List.mem_singleton] at e
        have := (row_new ho4 q hq).1
        omega)
      have hR5 := row_kept hR4 hk5 (fun q hq e => by
        rw [List.mem_singleton] at e
        have := (row_new hR4 q hq).1
        omega)
      have HO5 := hid ho5
      have HA5 := hid hA5
      have HS5 := hid hS5
      have HR5 := hid hR5
      have HAP5 := hid hap4
      have HK5 := hid ((HK.out.newG hK4 (fun x hx => .inr (hnb x hx))).trans (hk5.wider (by simp [gcF])))
      clear ho3 ho4 hg4 hb4 hA4 hS4 hR4 hA5 hS5 ho5 hR5 hap4 hk5 hK4
      go_wp2_with fail
      refine ⟨⟨j + 1, Y + 1, by omega, by go_num, HO5.out, ?_, HEN.out, HS5.out, HR5.out, HAP5.out, HK5.out⟩, by simp [intOf]; omega⟩
      rw [Int.natCast_add]
      exact HA5.out
    · obtain rfl : j = K := by omega
      obtain ⟨w5, hcl, hS5, hK5⟩ := hSt.clear 0
      have hA5 := hA.kept hK5 (by simpa using hne)
      have hnb : ∀ q ∈ ownB (.slice ao j co), w.heap.size ≤ q := fun q hq => (row_new ho q hq).1
      have hbl := HLT.out bm (by simp [gcF])
      have ho5 := row_kept ho hK5 (fun q hq e => by rw [List.mem_singleton] at e; have := hnb q hq; omega)
      have etk : ks.take j = ks := List.take_of_length_le (by rw [← HEK.out]; exact Nat.le_refl _)
      rw [etk] at ho5 hF
      have HO5 := hid ho5
      have HA5 := hid hA5
      have HS5 := hid hS5
      have HK5 := hid (hK.trans (hK5.wider (by simp [gcF])))
      have HF := hid hF
      clear ho hA hSt hkr hap hK hA5 hS5 ho5 hK5 hF etk
      go_wp2_with fail
      go_ret
      refine ⟨_, rfl, ?_, HK5.out, ⟨?_, ?_, hne, HP.out.ok.cutTo HEND.out.2.1⟩⟩
      · rw [← HEK.out]
        exact HO5.out
      · have h9 := HA5.out
        rw [HF.out] at h9
        exact h9
      · have e9 : (m.cutTo (endG m.fst ks)).M = fun _ => none := by
          funext k
          show cutM m.M (endG m.fst ks) k = none
          unfold cutM
          split
          · rfl
          · rename_i hk
            cases hMk : m.M k with
            | none => rfl
            | some x =>
              have hge : m.fst ≤ k := by have := HEND.out.1; omega
              have hin := steps_all ks m.fst HS.out k hge (by rw [hMk]; rfl)
              have := mem_end ks m.fst k hin HS.out
              omega
        rw [e9]
        exact HS5.out
end Go.Proofs.Ytbmdjfolfmgmmag
