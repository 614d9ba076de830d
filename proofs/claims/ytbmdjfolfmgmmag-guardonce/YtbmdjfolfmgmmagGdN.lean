import Derived.Test.YtbmdjfolfmgmmagGdM
import Derived.Deep.DeepCutAuto
import Derived.Deep.CutBlock
namespace Go.Proofs.Ytbmdjfolfmgmmag
open Go.ChangeShapes Go.WideShapes Go.ChangeAt Go.RowKit Go.Maps

/-! THE LAW GuardOnce: its walk. -/

set_option maxRecDepth 100000 in
theorem gonce_bad (k : Int) (b c : Value) (w : World) (hk : keyOk k = false) :
    Calls Try.prog 4 #[.int .i64 k, b, c] w fun e w' => e = .returned (.bool true) ∧ Below w.heap.size w w' := by
  have hs := fun wz => gnewS_bad k wz hk
  have hr := fun wz => gnewR_bad k wz hk
  clear hk
  go_enter Try.func4, Try.ntmps4
  go_wp2_with (first
    | (go_at_call 5; refine (hs _).mono ?_; rintro e w1 ⟨rfl, hb1⟩)
    | (go_at_call 6; refine (hr _).mono ?_; rintro e w2 ⟨rfl, hb2⟩))
  go_ret
  exact ⟨rfl, bthen hb1 hb2⟩

/-- A packet more. -/
theorem Gu.push {w wr : World} {gs gr bm : Nat} {vs vt : Value} {sd : SdM} {rc : GcM} {out : List PktM} {tl : List ByteArray} {ao : Option Addr} {no co : Nat} (h : Gu w wr gs gr bm vs (.slice ao no co) vt sd rc out tl) (p : PktM) (hm : out.length < 3000000000000) (o : Obj) :
    ∃ ao' co' w', (Builtin.append_ #[39, 39] 39 #[.slice ao no co, .slice (some ⟨wr.heap.size + 1, 0, none⟩) 1 1]).run Try.prog ((wr.alloc o).alloc (.cells #[.int .i64 p.short, .string p.data, .string p.sl] 43)) = .ok (.slice ao' (out.length + 1) co') w' ∧ Gu w w' gs gr bm vs (.slice ao' (out.length + 1) co') vt sd rc (out ++ [p]) tl := by
  obtain ⟨i0, hi, hz0, hz1, hz2⟩ := info_parts Try.infoPk
  have h2 := (h.below ((Below.refl _ wr).alloc (Nat.le_refl _) o)).below ((Below.refl _ (wr.alloc o)).alloc (Nat.le_refl _) (.cells #[.int .i64 p.short, .string p.data, .string p.sl] 43))
  have hs : (wr.alloc o).heap.size = wr.heap.size + 1 := World.size_alloc _ _
  have hA := at_newG (wr.alloc o) 43 [.int .i64 p.short, .string p.data, .string p.sl]
  rw [hs] at hA
  obtain ⟨v', w', hr, ho, hg, _, hb⟩ := run_append_own_at (P := Try.prog) _ w.heap.size 39 39 43 i0 _ 3 40 Try.underlying39 hi hz0 hz1 hz2 rfl (by omega) (.slice ao no co) out.length (cellsPk out) h2.out ⟨wr.heap.size + 1, 0, none⟩ 1 1 p.cells rfl (fun j u hj => by
    rw [Addr.add_lit, Nat.zero_add, hA.cell]
    exact hj) (fun u hu => cellsPk_one [p] u (by simpa [cellsPk] using hu)) (by unfold maxLen; omega) (by omega) h2.bel.size
  obtain ⟨ao', co', rfl, -, -, -⟩ := row_shape ho
  refine ⟨ao', co', w', hr, h2.stepO (Kept.grownR hg) (by rw [List.length_append, List.length_singleton, cellsPk_snoc]; exact ho) (fun x hx => ?_)⟩
  have hy' : (Value.slice ao' (out.length + 1) co').ownBlock = some x := by simpa [ownB] using hx
  rcases hb with hb | hb
  · exact .inl (by simpa [ownB, ← hb] using hy')
  · rw [hb] at hy'
    exact .inr (by have := Option.some.inj hy'; omega)
theorem told_small {ds tl' : List ByteArray} {f f' : Nat} (h : ds.take f ++ tl' = ds.take f') (hf : f' ≤ 200) : (ds.take f).length + tl'.length < 1000000000000 := by
  have h1 := congrArg List.length h
  rw [List.length_append] at h1
  rw [h1, List.length_take]
  omega
/-- What is told behind what was told. -/
theorem Gu.joinT {w wr : World} {gs gr bm B2 : Nat} {vs vo x : Value} {sd : SdM} {rc : GcM} {out : List PktM} {tl tl' : List ByteArray} {at_ : Option Addr} {nt ct : Nat} (h : Gu w wr gs gr bm vs vo (.slice at_ nt ct) sd rc out tl) (hs : wr.ownsRow B2 9 1 x tl'.length (tl'.map Value.string)) (hm : tl.length + tl'.length < 1000000000000) :
    ∃ a' c' n' w', (Builtin.append_ #[32, 32] 32 #[.slice at_ nt ct, x]).run Try.prog wr = .ok (.slice a' n' c') w' ∧ n' = tl.length + tl'.length ∧ Gu w w' gs gr bm vs vo (.slice a' n' c') sd rc out (tl ++ tl') := by
  obtain ⟨i0, hi, hz0, hz1, hz2⟩ := info_parts Try.infoTx
  obtain ⟨v', w', hr, ho, hK, hb⟩ := run_joinG (ty := 32) Try.underlying32 hi hz0 hz1 hz2 rfl (by omega) h.tld hs (fun u hu => by
    obtain ⟨y, _, rfl⟩ := List.mem_map.1 hu
    rfl) (by unfold maxLen; omega) (by omega) h.bel.size
  obtain ⟨a', c', rfl, -, -, -⟩ := row_shape ho
  exact ⟨a', c', _, w', hr, rfl, h.stepT hK (by rw [List.length_append, List.map_append]; exact ho) hb⟩
/-- What stands between two rounds. -/
def GoAt (w : World) (ds : List ByteArray) (gs gr bm : Nat) (wr : World) (kv vo vt nv : Value) : Prop := ∃ (k : Int) (vs : Value) (m : GoM), kv = .int .i64 k ∧ nv = .int .i64 (m.n : Int) ∧ Gu w wr gs gr bm vs vo vt m.sd m.rc m.out (ds.take m.rc.fst) ∧ GoOk ds k m
theorem GoAt.first {w w1 w2 : World} {ds : List ByteArray} {k : Int} {g bm : Nat} (hk : keyOk k = true) (hP : PSd w1 w.heap.size (.slice none 0 0) (.new k)) (hb1 : Below w.heap.size w w1) (hR : PGc w2 g bm (.new k)) (h1 : w1.heap.size ≤ g) (h2 : w1.heap.size ≤ bm) (hb2 : Below w1.heap.size w1 w2) : GoAt w ds w.heap.size g bm w2 (.int .i64 k) (.slice none 0 0) (.slice none 0 0) (.int .i64 0) := by
  have hlt := hP.hd.lt
  have e0 : ds.take (GcM.new k).fst = [] := List.take_zero
  refine ⟨k, .slice none 0 0, ⟨.new k, .new k, [], 0⟩, rfl, rfl, ?_, GoOk.new ds hk⟩
  rw [e0]
  refine ⟨bthen hb1 hb2, hP.kept (S := []) (Kept.of_below hb2) (by simp), hR, ⟨rfl, .inl ⟨rfl, rfl⟩⟩, ⟨rfl, .inl ⟨rfl, rfl⟩⟩, fun x hx => ?_, fun x hx => ?_, fun x hx e => ?_, fun x hx => absurd hx (by simp [ownB, Value.ownBlock]), fun x hx => absurd hx (by simp [ownB, Value.ownBlock])⟩
  · have : x = w.heap.size := by simpa [sdF, blkG] using hx
    omega
  · have : x = g ∨ x = bm := by simpa [gcF] using hx
    omega
  · have : x = w.heap.size := by simpa [sdF, blkG] using hx
    have : x = g ∨ x = bm := by simpa [gcF] using e
    omega

set_option maxRecDepth 100000 in
set_option maxHeartbeats 4000000 in
theorem gonce_good (k0 : Int) (ds : List ByteArray) (ls : List Int) (ad al : Option Addr) (nd cd nl cl : Nat) (w : World) (hk : keyOk k0 = true) (hD : Txs w ad ds) (hnd : ds.length = nd) (hdz : ∀ i, i < nd → (dAt ds i).size ≤ 9223372036854775807) (hL : Rd .i64 w al ls) (hnl : ls.length = nl) (hlm : nl ≤ 9223372036854775807) :
    Calls Try.prog 4 #[.int .i64 k0, .slice ad nd cd, .slice al nl cl] w fun e w' => e = .returned (.bool true) ∧ Below w.heap.size w w' := by
  have hs := fun wz => gnewS_ok k0 wz hk
  have hr := fun wz => gnewR_ok k0 wz hk
  have HK := hid hk
  have HD := hid hD
  have HND := hid hnd
  have HL := hid hL
  have HNL := hid hnl
  have HDZ := hid hdz
  clear hk hD hnd hL hnl hdz
  go_enter Try.func4, Try.ntmps4
  go_wp2_with (first
    | (go_at_call 5; refine (hs _).mono ?_; rintro e w1 ⟨rfl, hP1, hb1⟩)
    | (go_at_call 6; refine (hr _).mono ?_; rintro e w2 ⟨gr, bm, rfl, hP2, hgr, hbm, hb2⟩))
  have hA0 : GoAt w ds w.heap.size gr bm w2 (.int .i64 k0) (.slice none 0 0) (.slice none 0 0) (.int .i64 0) := GoAt.first HK.out hP1 hb1 hP2 hgr hbm hb2
  clear hP1 hP2 hb1 hb2 hgr hbm
  go_loopw [0, 11, 12, 13, 14] (fun kv vo vt nv i wr => ∃ j : Nat, j ≤ nl ∧ i = .int .i64 j ∧ GoAt w ds w.heap.size gr bm wr kv vo vt nv) (fun _ _ _ _ i _ => nl - (intOf i).toNat)
  case atStart => exact ⟨0, Nat.zero_le _, rfl, hA0⟩
  case round =>
    obtain ⟨j, hj, rfl, hA⟩ := hrel
    clear hA0
    by_cases hlt : j < nl
    · obtain ⟨k, vs, m, rfl, rfl, hG, hO⟩ := hA
      have HO := hid hO
      obtain ⟨ao, co, rfl, -, hcm, -⟩ := row_shape hG.out
      obtain ⟨at_, ct, rfl, -, htm, -⟩ := row_shape hG.tld
      generalize hT0 : (ds.take m.rc.fst).length = T0 at *
      have HT0 := hid hT0
      have HG := hid hG
      clear hT0
      have hn200 : m.n ≤ 200 := hO.few
      have HLO := hid (show m.out.length ≤ 200 from Nat.le_trans hO.olen hO.few)
      have hjl : j < ls.length := by rw [HNL.out]; exact hlt
      obtain ⟨bl, ol, rfl, hcl⟩ := (HL.out.below hG.bel).at hjl
      have cz := hcl j hjl
      obtain ⟨z, ez⟩ : ∃ z, z = ls.getD j 0 := ⟨_, rfl⟩
      rw [← ez] at cz
      have hz4 := and_low2 z
      obtain ⟨R, eR⟩ : ∃ R, R = z % 4 := ⟨_, rfl⟩
      rw [← eR] at hz4
      have hR : R = 0 ∨ R = 1 ∨ R = 2 ∨ R = 3 := by omega
      have HER := hid eR
      clear hcl hO hG eR ez
      go_upto_block 2 with fail
      go_cut [0, 11, 12, 13] (fun kv vo vt nv wx => GoAt w ds w.heap.size gr bm wx kv vo vt nv)
      case first =>
        rcases hR with rfl | rfl | rfl | rfl
        · by_cases h1 : m.n < nd ∧ m.n < 200
          · obtain ⟨h1, h2⟩ := h1
            have h1' : m.n < ds.length := by rw [HND.out]; exact h1
            obtain ⟨bd, od, rfl, hcd⟩ := (HD.out.kept (S := []) (Kept.of_below HG.out.bel) (fun x _ => by simp)).at h1'
            have x1 : wr.cell? ⟨bd, od + m.n, none⟩ = some (.string (dAt ds m.n)) := hcd _ h1'
            have hdz := HDZ.out m.n h1
            clear hcd
            by_cases hd : (dAt ds m.n).size ≤ 500
            · have hse := HG.out.send hd (by have := HO.out.nxt; omega)
              have HS := hid (HO.out.sent h2 h1' hd)
              obtain ⟨P, eP⟩ : ∃ P, P = pktG m.sd.key m.sd.nxt (dAt ds m.n) := ⟨_, rfl⟩
              rw [← eP] at hse HS
              obtain ⟨rx, ry, rz⟩ := P
              dsimp only [PktM.val] at hse
              generalize dAt ds m.n = D at *
              clear eP
              go_wp2_with (first
                | (go_at_call 8; refine hse.mono ?_; rintro e w3 ⟨vs3, rfl, hG3⟩; obtain ⟨ao', co', w4, hAp, hG4⟩ := hG3.push ⟨rx, ry, rz⟩ (by have := HLO.out; omega) (.cells #[.int .i64 rx, .string ry, .string rz] 43); have HG4 := hid hG4; clear hG3 hG4)
                | (at_builtin; refine wpList_bi2 _ rfl .append _ _ 39 39 rfl _ _ rfl rfl (bi_append hAp) ?_))
              go_meet
              case rel => exact ⟨k, vs3, ⟨m.sd.send D, m.rc, m.out ++ [⟨rx, ry, rz⟩], m.n + 1⟩, rfl, by go_num, HG4.out, HS.out⟩
            · have hse := gsend_large (w := wr) (p := ⟨w.heap.size, 0, none⟩) (d := dAt ds m.n) (by omega) hdz
              unfold zeroPk at hse
              generalize dAt ds m.n = D at *
              go_wp2_with (first
                | (go_at_call 8; refine hse.mono ?_; rintro e w3 ⟨rfl, hb3⟩))
              go_ret
              exact ⟨rfl, bthen HG.out.bel (bthen hb3 ((Below.refl _ w3).alloc (Nat.le_refl _) _))⟩
          · by_cases h2 : m.n < nd
            · have h3 : ¬ (m.n < 200) := by omega
              go_wp2_with fail
              go_meet
              case rel => exact ⟨k, vs, m, rfl, rfl, HG.out, HO.out⟩
            · go_wp2_with fail
              go_meet
              case rel => exact ⟨k, vs, m, rfl, rfl, HG.out, HO.out⟩
        · by_cases hne : 0 < m.out.length
          · obtain ⟨y, ey⟩ : ∃ y, y = z / 4 % 1024 := ⟨_, rfl⟩
            have hy := and_low10 (z / 4)
            rw [← ey] at hy
            have hy0 : 0 ≤ y ∧ y < 1024 := by omega
            obtain ⟨O, eO⟩ : ∃ O, O = m.out.length := ⟨_, rfl⟩
            obtain ⟨q, eq⟩ : ∃ q : Nat, q = (y % (O : Int)).toNat := ⟨_, rfl⟩
            have hO0 : 0 < O := by omega
            have hq0 : y % (O : Int) = (q : Int) := by
              have := Int.emod_nonneg y (show (O : Int) ≠ 0 by omega)
              omega
            have hqO : q < O := by
              have := Int.emod_lt_of_pos y (show (0 : Int) < (O : Int) by omega)
              omega
            have hOm : O ≤ 200 := by rw [eO]; exact HLO.out
            obtain ⟨bo, oo, rfl, hco⟩ := row_pks HG.out.out (by intro e; rw [e] at hne; simp at hne)
            obtain ⟨x0, x1, x2⟩ := hco q (by rw [← eO]; exact hqO)
            obtain ⟨c, hc, ec⟩ := HO.out.out (m.out.getD q .zero) (by rw [List.getD_eq_getElem?_getD, List.getElem?_eq_getElem (by rw [← eO]; exact hqO)]; exact List.getElem_mem _)
            have hta := HG.out.take HO.out hc
            rw [← ec] at hta
            generalize m.out.getD q .zero = P at *
            obtain ⟨rx, ry, rz⟩ := P
            dsimp only [PktM.val] at hta x0 x1 x2
            rw [← eO]
            have HEO := hid eO
            have HT2 := hid hta
            clear hco ec ey eq eO hta
            go_wp2_with (first
              | (go_at_call 14; refine HT2.out.mono ?_; rintro e w3 ⟨v, rc', x, tl', rfl, hov, hG3, hO3, ht3, -⟩; obtain ⟨av, cv, rfl, -, -, -⟩ := row_shape hov; obtain ⟨at4, ct4, n4, w4, hAp, -, hG4⟩ := hG3.joinT hov (told_small ht3 (Nat.le_trans hO3.fst hO3.few)); have HG4 := hid hG4; have HO3 := hid hO3; have HT3 := hid ht3; clear hG3 hO3 hG4 ht3 hov)
              | (at_builtin; refine wpList_bi2 _ rfl .append _ _ 32 32 rfl _ _ rfl rfl (bi_append hAp) ?_))
            go_meet
            case rel =>
              have h9 := HG4.out
              rw [HT3.out, ← HEO.out] at h9
              exact ⟨k, vs, ⟨m.sd, rc', m.out, m.n⟩, rfl, rfl, h9, HO3.out⟩
          · go_wp2_with fail
            go_meet
            case rel => exact ⟨k, vs, m, rfl, rfl, HG.out, HO.out⟩
        · by_cases hne : 0 < m.out.length
          · obtain ⟨y, ey⟩ : ∃ y, y = z / 4 % 1024 := ⟨_, rfl⟩
            have hy := and_low10 (z / 4)
            rw [← ey] at hy
            have hy0 : 0 ≤ y ∧ y < 1024 := by omega
            obtain ⟨O, eO⟩ : ∃ O, O = m.out.length := ⟨_, rfl⟩
            obtain ⟨q, eq⟩ : ∃ q : Nat, q = (y % (O : Int)).toNat := ⟨_, rfl⟩
            have hO0 : 0 < O := by omega
            have hq0 : y % (O : Int) = (q : Int) := by
              have := Int.emod_nonneg y (show (O : Int) ≠ 0 by omega)
              omega
            have hqO : q < O := by
              have := Int.emod_lt_of_pos y (show (0 : Int) < (O : Int) by omega)
              omega
            have hOm : O ≤ 200 := by rw [eO]; exact HLO.out
            obtain ⟨bo, oo, rfl, hco⟩ := row_pks HG.out.out (by intro e; rw [e] at hne; simp at hne)
            obtain ⟨x0, x1, x2⟩ := hco q (by rw [← eO]; exact hqO)
            obtain ⟨c, hc, ec⟩ := HO.out.out (m.out.getD q .zero) (by rw [List.getD_eq_getElem?_getD, List.getElem?_eq_getElem (by rw [← eO]; exact hqO)]; exact List.getElem_mem _)
            have hta := HG.out.take HO.out hc
            rw [← ec] at hta
            generalize m.out.getD q .zero = P at *
            obtain ⟨rx, ry, rz⟩ := P
            dsimp only [PktM.val] at hta x0 x1 x2
            rw [← eO]
            have HEO := hid eO
            have HT2 := hid hta
            clear hco ec ey eq eO hta
            go_wp2_with (first
              | (go_at_call 14; refine HT2.out.mono ?_; rintro e w3 ⟨v, rc', x, tl', rfl, hov, hG3, hO3, ht3, -⟩; obtain ⟨av, cv, rfl, -, -, -⟩ := row_shape hov; obtain ⟨at4, ct4, n4, w4, hAp, -, hG4⟩ := hG3.joinT hov (told_small ht3 (Nat.le_trans hO3.fst hO3.few)); have HG4 := hid hG4; have HO3 := hid hO3; have HT3 := hid ht3; clear hG3 hO3 hG4 ht3 hov)
              | (at_builtin; refine wpList_bi2 _ rfl .append _ _ 32 32 rfl _ _ rfl rfl (bi_append hAp) ?_))
            go_meet
            case rel =>
              have h9 := HG4.out
              rw [HT3.out, ← HEO.out] at h9
              exact ⟨k, vs, ⟨m.sd, rc', m.out, m.n⟩, rfl, rfl, h9, HO3.out⟩
          · go_wp2_with fail
            go_meet
            case rel => exact ⟨k, vs, m, rfl, rfl, HG.out, HO.out⟩
        · obtain ⟨y, ey⟩ : ∃ y, y = z / 4 % 4 := ⟨_, rfl⟩
          have hy := and_low2 (z / 4)
          rw [← ey] at hy
          by_cases hy0 : y = 0
          · subst hy0
            obtain ⟨Z, eZ⟩ : ∃ Z, Z = z % 1024 := ⟨_, rfl⟩
            have hz10 := and_low10 z
            rw [← eZ] at hz10
            have hZ : 0 ≤ Z ∧ Z < 1024 := by omega
            obtain ⟨K, eK⟩ : ∃ K, K = (k + 1 + Z) % 2147483648 := ⟨_, rfl⟩
            have hz31 := and_low31 (k + 1 + Z)
            rw [← eK] at hz31
            have hkb := keyOk_bd HO.out.key
            have hKk : keyOk K = true := by unfold keyOk; simp; omega
            have hc1 := gcount_any HG.out.rc
            have hcf := HG.out.confirm HO.out.beg (by have := HO.out.nxt; have := HO.out.fst; omega)
            obtain ⟨hO3, hl3⟩ := HO.out.moved hKk
            have HO3 := hid hO3
            have HL3 := hid hl3
            have hff := HO.out.fst
            obtain ⟨f, ef⟩ : ∃ f, f = m.rc.fst := ⟨_, rfl⟩
            rw [← ef] at hc1 hff
            have hcf' : Calls Try.prog 10 #[.pointer (some ⟨w.heap.size, 0, none⟩), .int .i64 ((f : Int) - 1)] wr fun e w' => ∃ x vs', e = .returned (.int .i64 x) ∧ Gu w w' w.heap.size gr bm vs' (.slice ao m.out.length co) (.slice at_ T0 ct) (m.sd.upto m.rc.fst) m.rc m.out (ds.take m.rc.fst) := by rw [ef]; exact hcf
            have HEF := hid ef
            have hdf : (((m.n - f : Nat) : Int) != (m.n : Int) - (f : Int)) = false := by simp; omega
            clear ey eZ eK hcf hO3 hl3 ef
            go_wp2_with (first
              | (go_at_call 20; refine hc1.mono ?_; rintro e w5 ⟨rfl, rfl⟩)
              | (go_at_call 10; refine hcf'.mono ?_; rintro e w6 ⟨x6, vs6, rfl, hG6⟩; have hm6 := hG6.rmove hKk; clear hc1)
              | (go_at_call 17; refine hm6.mono ?_; rintro e w7 ⟨rfl, hG7⟩; have hm7 := hG7.smove hKk; clear hG6 hm6)
              | (go_at_call 12; refine hm7.mono ?_; rintro e w8 ⟨G, rfl, hG8, -⟩; have hc8 := gcount_any hG8.rc; rw [show (m.rc.move K).fst = f from HEF.out.symm] at hc8; rw [HL3.out, ← HEF.out]; have HG8 := hid hG8; clear hG8 hG7 hm7)
              | (go_at_call 20; refine hc8.mono ?_; rintro e w9 ⟨rfl, rfl⟩))
            go_meet
            case rel =>
              have h9 := HG8.out
              rw [HL3.out, ← HEF.out] at h9
              refine ⟨K, vs6, ⟨(m.sd.upto m.rc.fst).move K, m.rc.move K, (m.sd.upto m.rc.fst).again K, m.n⟩, rfl, rfl, ?_, HO3.out⟩
              show Gu w w8 w.heap.size gr bm vs6 _ _ ((m.sd.upto m.rc.fst).move K) (m.rc.move K) ((m.sd.upto m.rc.fst).again K) (ds.take m.rc.fst)
              rw [← HEF.out]
              exact h9
          · have hyb : (y == 0) = false := by simpa using hy0
            clear ey
            go_wp2_with fail
            exact ⟨⟨j + 1, by omega, by go_num, k, vs, m, rfl, rfl, HG.out, HO.out⟩, by simp [intOf]; omega⟩
      case rest =>
        rename_i wx0
        obtain ⟨k', vs', m', rfl, rfl, hG', hO'⟩ := hcut
        obtain ⟨ao', co', rfl, -, -, -⟩ := row_shape hG'.out
        obtain ⟨at', ct', rfl, hnt', htm', -⟩ := row_shape hG'.tld
        have hfl : m'.rc.fst ≤ ds.length := Nat.le_trans hO'.fst hO'.have_
        have hlen : (ds.take m'.rc.fst).length = m'.rc.fst := by rw [List.length_take]; omega
        have htx : Txs wc at' (ds.take m'.rc.fst) := row_txs hG'.tld
        rw [hlen]
        obtain ⟨T, eT⟩ : ∃ T, T = m'.rc.fst := ⟨_, rfl⟩
        rw [← eT]
        have hT : T ≤ 200 := by have := hO'.fst; have := hO'.few; omega
        have hTd : T ≤ nd := by rw [← HND.out, eT]; exact hfl
        have HG' := hid hG'
        have HO' := hid hO'
        have HTX := hid htx
        have HTL := hid (show (ds.take m'.rc.fst).length = T by rw [hlen, eT])
        have HET := hid eT
        clear hlen htx hfl hG' hO' eT HG HO hn200 cz hz4 HER hR HLO
        go_wp2_with fail
        go_loopw [21] (fun i wr => ∃ q : Nat, q ≤ T ∧ i = .int .i64 q ∧ Below wc.heap.size wc wr) (fun i _ => T - (intOf i).toNat)
        case atStart => exact ⟨0, Nat.zero_le _, rfl, Below.refl _ _⟩
        case round =>
          rename_i wr2
          obtain ⟨q, hq, rfl, hbq⟩ := hrel
          by_cases hq2 : q < T
          · obtain ⟨bt, ot, rfl, hct⟩ := (HTX.out.kept (S := []) (Kept.of_below hbq) (fun x _ => by simp)).at (show q < _ by rw [HTL.out]; exact hq2)
            have hqd : q < ds.length := by rw [HND.out]; omega
            obtain ⟨bd, od, rfl, hcd⟩ := (HD.out.kept (S := []) (Kept.of_below (bthen HG'.out.bel hbq)) (fun x _ => by simp)).at hqd
            have x1 := hct q (by rw [HTL.out]; exact hq2)
            have x2 := hcd q hqd
            have e3 : (ds.take m'.rc.fst).getD q ByteArray.empty = ds.getD q ByteArray.empty := by
              rw [List.getD_eq_getElem?_getD, List.getD_eq_getElem?_getD, List.getElem?_take_of_lt (by rw [← HET.out]; exact hq2)]
            rw [e3] at x1
            obtain ⟨X, eX⟩ : ∃ X, X = ds.getD q ByteArray.empty := ⟨_, rfl⟩
            rw [← eX] at x1 x2
            clear hct hcd e3 eX
            go_upto_region 37 with fail
            go_region
            go_wp2_with fail
            exact ⟨⟨q + 1, by omega, by go_num, hbq.drew⟩, by simp [intOf]; omega⟩
          · obtain rfl : q = T := by omega
            have hcn := gcount_any (HG'.out.below hbq).rc
            rw [← HET.out] at hcn
            go_wp2_with (go_at_call 20; refine hcn.mono ?_; rintro e w5 ⟨rfl, rfl⟩)
            refine ⟨⟨j + 1, by omega, by go_num, k', vs', m', rfl, rfl, ?_, HO'.out⟩, by simp [intOf]; omega⟩
            have h9 := HG'.out.below hbq
            rw [HTL.out] at h9
            exact h9
    · obtain rfl : j = nl := by omega
      obtain ⟨k, vs, m, rfl, rfl, hG, hO⟩ := hA
      have HO := hid hO
      obtain ⟨ao, co, rfl, -, -, -⟩ := row_shape hG.out
      obtain ⟨at_, ct, rfl, -, -, -⟩ := row_shape hG.tld
      generalize hT0 : (ds.take m.rc.fst).length = T0 at *
      have HT0 := hid hT0
      have HG := hid hG
      have hn200 : m.n ≤ 200 := hO.few
      have hKk := hO.key
      have hc1 := gcount_any hG.rc
      have hcf := hG.confirm hO.beg (by have := hO.nxt; have := hO.fst; omega)
      obtain ⟨hO3, hl3⟩ := hO.moved hO.key
      have HO3 := hid hO3
      have HL3 := hid hl3
      have hff := hO.fst
      obtain ⟨f, ef⟩ : ∃ f, f = m.rc.fst := ⟨_, rfl⟩
      rw [← ef] at hc1 hff
      have hcf' : Calls Try.prog 10 #[.pointer (some ⟨w.heap.size, 0, none⟩), .int .i64 ((f : Int) - 1)] wr fun e w' => ∃ x vs', e = .returned (.int .i64 x) ∧ Gu w w' w.heap.size gr bm vs' (.slice ao m.out.length co) (.slice at_ T0 ct) (m.sd.upto m.rc.fst) m.rc m.out (ds.take m.rc.fst) := by rw [ef]; exact hcf
      have HEF := hid ef
      obtain ⟨L, eL⟩ : ∃ L, L = m.n - f := ⟨_, rfl⟩
      have hL : f + L = m.n := by omega
      have HEL := hid (show (m.sd.upto m.rc.fst).wait.length = L by rw [hl3, eL, ef])
      clear hT0 hG hO hcf hO3 hl3 ef eL
      go_wp2_with (first
        | (go_at_call 20; refine hc1.mono ?_; rintro e w5 ⟨rfl, rfl⟩)
        | (go_at_call 10; refine hcf'.mono ?_; rintro e w6 ⟨x6, vs6, rfl, hG6⟩; have hm6 := hG6.smove hKk; clear hc1)
        | (go_at_call 12; refine hm6.mono ?_; rintro e w7 ⟨G, rfl, hG7, -⟩; have hm7 := hG7.rmove hKk; rw [HEL.out]; clear hG6 hm6)
        | (go_at_call 17; refine hm7.mono ?_; rintro e w8 ⟨rfl, hG8⟩; have HG8 := hid hG8; clear hG8 hG7 hm7))
      have hA8 : ∃ rc' : GcM, Gu w w8 w.heap.size gr bm vs6 (.slice (some ⟨G, 0, none⟩) L L) (.slice at_ T0 ct) ((m.sd.upto m.rc.fst).move k) rc' ((m.sd.upto m.rc.fst).again k) (ds.take rc'.fst) ∧ GoOk ds k ⟨(m.sd.upto m.rc.fst).move k, rc', (m.sd.upto m.rc.fst).again k, m.n⟩ ∧ ∀ i, i < m.n → (i < f ∨ f + L ≤ i) → rc'.Has i := by
        have h9 := HG8.out
        rw [HEL.out] at h9
        refine ⟨m.rc.move k, h9, HO3.out, fun i hi h => ?_⟩
        rcases h with h | h
        · exact .inl (show i < m.rc.fst by rw [← HEF.out]; exact h)
        · omega
      go_loopw [12, 23] (fun vt i wz => ∃ q : Nat, q ≤ L ∧ i = .int .i64 ((q : Int) - 1) ∧ ∃ rc' : GcM, Gu w wz w.heap.size gr bm vs6 (.slice (some ⟨G, 0, none⟩) L L) vt ((m.sd.upto m.rc.fst).move k) rc' ((m.sd.upto m.rc.fst).again k) (ds.take rc'.fst) ∧ GoOk ds k ⟨(m.sd.upto m.rc.fst).move k, rc', (m.sd.upto m.rc.fst).again k, m.n⟩ ∧ ∀ i, i < m.n → (i < f ∨ f + q ≤ i) → rc'.Has i) (fun _ i _ => (intOf i + 1).toNat)
      case atStart => exact ⟨L, Nat.le_refl _, rfl, hA8⟩
      case round =>
        rename_i wz
        obtain ⟨q, hq, rfl, rc', hGz, hOz, hHz⟩ := hrel
        clear hA8
        obtain ⟨at5, ct5, rfl, -, -, -⟩ := row_shape hGz.tld
        by_cases hq0 : 0 < q
        · obtain ⟨p, rfl⟩ : ∃ p, q = p + 1 := ⟨q - 1, by omega⟩
          rw [show (((p + 1 : Nat) : Int) - 1) = (p : Int) by omega]
          have hpw : p < (m.sd.upto m.rc.fst).wait.length := by rw [HEL.out]; omega
          obtain ⟨bo, oo, hbo, hco⟩ := row_pks hGz.out (by
            intro e
            have := congrArg List.length e
            rw [SdM.again_length, HEL.out] at this
            simp at this
            omega)
          obtain ⟨x0, x1, x2⟩ := hco p (by rw [SdM.again_length]; exact hpw)
          simp only [Option.some.injEq, Addr.mk.injEq, and_true] at hbo
          obtain ⟨rfl, rfl⟩ := hbo
          have hta := hGz.take hOz (c := f + p) (show f + p < m.n by omega)
          have ep : ((m.sd.upto m.rc.fst).again k).getD p .zero = pktG k (f + p) (dAt ds (f + p)) := by
            rw [again_at _ _ hpw]
            have h8 := HO3.out.wait p hpw
            have h8' : (m.sd.upto m.rc.fst).wait.getD p ByteArray.empty = dAt ds (m.rc.fst + p) := h8
            rw [h8', HEF.out]
            rfl
          rw [ep] at x0 x1 x2
          generalize pktG k (f + p) (dAt ds (f + p)) = P at *
          obtain ⟨rx, ry, rz⟩ := P
          dsimp only [PktM.val] at hta x0 x1 x2
          rw [Nat.zero_add] at x0 x1 x2
          generalize hT5 : (ds.take rc'.fst).length = T5 at *
          have HT2 := hid hta
          have HHz := hid hHz
          clear hco ep hta hpw hGz hOz hHz hT5
          go_wp2_with (first
            | (go_at_call 14; refine HT2.out.mono ?_; rintro e w3 ⟨v, rc3, x, tl', rfl, hov, hG3, hO3, ht3, hH3⟩; obtain ⟨av, cv, rfl, -, -, -⟩ := row_shape hov; obtain ⟨at4, ct4, n4, w4, hAp, -, hG4⟩ := hG3.joinT hov (told_small ht3 (Nat.le_trans hO3.fst hO3.few)); have HG4 := hid hG4; have HO4 := hid hO3; have HT3 := hid ht3; have HH3 := hid hH3; clear hG3 hO3 hG4 ht3 hov hH3)
            | (at_builtin; refine wpList_bi2 _ rfl .append _ _ 32 32 rfl _ _ rfl rfl (bi_append hAp) ?_))
          refine ⟨⟨p, by omega, rfl, rc3, ?_, HO4.out, fun i hi h => HH3.out i ?_⟩, by simp [intOf]⟩
          · have h9 := HG4.out
            rw [HT3.out] at h9
            exact h9
          · rcases h with h | h
            · exact .inl (HHz.out i hi (.inl h))
            · by_cases e : i = f + p
              · exact .inr e
              · exact .inl (HHz.out i hi (.inr (by omega)))
        · obtain rfl : q = 0 := by omega
          have hfn : rc'.fst = m.n := all_has hOz (fun i hi => hHz i hi (by
            rcases Nat.lt_or_ge i f with h | h
            · exact .inl h
            · exact .inr (by omega)))
          have hnd2 : m.n ≤ ds.length := hOz.have_
          have hT5 : (ds.take rc'.fst).length = m.n := by rw [hfn, List.length_take]; omega
          have htx : Txs wr at5 (ds.take rc'.fst) := row_txs hGz.tld
          rw [hT5]
          have hcN : ∀ N, Calls Try.prog 20 #[.pointer (some ⟨gr, 0, none⟩)] (wr.drewN N) fun e w' => e = .returned (.int .i64 (m.n : Int)) ∧ w' = wr.drewN N := fun N => by
            have h8 := gcount_any (hGz.rc.kept (S := []) ((Kept.refl _ wr).drewN N) (by simp))
            rw [hfn] at h8
            exact h8.mono fun e w' ⟨a, b⟩ => ⟨a, b.symm⟩
          have HBz := hid hGz.bel
          by_cases hn0 : m.n = 0
          · clear hGz hOz hHz hfn hT5 htx hnd2
            generalize m.n = N at *
            subst hn0
            go_upto_region 49 with fail
            go_quiet (first | (go_at_call 20; exact Calls.quiet_of_same (hcN _)))
            go_wp2_with fail
            go_ret
            exact ⟨rfl, below_keptG HBz.out ((Kept.refl [] wr).drewN _) (by simp)⟩
          · obtain ⟨n1, en1⟩ : ∃ n1, m.n = n1 + 1 := ⟨m.n - 1, by omega⟩
            have hl1 : n1 < (ds.take rc'.fst).length := by rw [hT5]; omega
            obtain ⟨bt, ot, rfl, hct⟩ := htx.at hl1
            obtain ⟨bd, od, rfl, hcd⟩ := (HD.out.kept (S := []) (Kept.of_below hGz.bel) (fun x _ => by simp)).at (show n1 < ds.length by omega)
            have x1 := hct n1 hl1
            have x2 := hcd n1 (by omega)
            have e3 : (ds.take rc'.fst).getD n1 ByteArray.empty = ds.getD n1 ByteArray.empty := by
              rw [List.getD_eq_getElem?_getD, List.getD_eq_getElem?_getD, List.getElem?_take_of_lt (by rw [hfn]; omega)]
            rw [e3] at x1
            obtain ⟨X, eX⟩ : ∃ X, X = ds.getD n1 ByteArray.empty := ⟨_, rfl⟩
            rw [← eX] at x1 x2
            have hn1 : n1 < nd := by rw [← HND.out]; omega
            clear hGz hOz hHz hfn hT5 htx hct hcd e3 eX hl1 hnd2
            have hi1 : (m.n : Int) - 1 = (n1 : Int) := by omega
            have hi0 : ((m.n : Int) == 0) = false := by simpa using hn0
            have hi2 : n1 < m.n := by omega
            clear en1 HO HO3 HL3 HEL HG8 HG HEF HT0 hff hL hKk hcf'
            generalize m.n = N at *
            go_upto_region 49 with fail
            go_quiet (first | (go_at_call 20; exact Calls.quiet_of_same (hcN _)))
            go_wp2_with fail
            go_ret
            exact ⟨rfl, below_keptG HBz.out ((Kept.refl [] wr).drewN _) (by simp)⟩
end Go.Proofs.Ytbmdjfolfmgmmag
