import Derived.Test.YtpeidccpplfbaaeDoorHoB
import Derived.Deep.Cut
namespace Go.Proofs.YtpeidccpplfbaaeDoor
open Go.ChangeShapes Go.WideShapes Go.ChangeAt Go.RowKit

/-! THE LAW HarqOnce. -/

theorem mem2H {n g b : Nat} (hg : n ≤ g) (hb : n ≤ b) : ∀ x ∈ [g, b], n ≤ x := fun x hx => by
  rcases List.mem_cons.1 hx with rfl | hx
  · exact hg
  · obtain rfl : x = b := (by simpa using hx)
    exact hb
theorem mem1H {n g : Nat} (hg : n ≤ g) : ∀ x ∈ [g], n ≤ x := fun x hx => by obtain rfl : x = g := (by simpa using hx); exact hg
theorem Kept.blocksH {S : List Nat} {w w' : World} (h : Kept S w w') : ∀ i, i < w.heap.size → i ∉ S → w'.heap[i]? = w.heap[i]? := fun i hi hs => h.block i hi hs

set_option maxRecDepth 100000 in
set_option maxHeartbeats 1000000 in
theorem honce_bad (l : Int) (v : Value) (w : World) (hl : l < 1 ∨ 8 < l) : Calls Tryd.prog 4 #[.int .i64 l, v] w fun e w' => e = .returned (.bool true) ∧ Below w.heap.size w w' := by
  have hnw := fun wz => pnew_bad l wz hl
  clear hl
  go_enter Tryd.func4, Tryd.ntmps4
  go_wp2_with (go_at_call 5; refine (hnw _).mono ?_; rintro e w1 ⟨rfl, hb1⟩)
  go_ret
  exact ⟨rfl, hb1⟩

set_option maxRecDepth 100000 in
set_option maxHeartbeats 20000000 in
theorem honce_good (l : Nat) (zs : List Int) (a : Option Addr) (nt c : Nat) (w : World) (h1 : 1 ≤ l) (h8 : l ≤ 8) (hV : VerT w) (hZ : Rd .i64 w a zs) (hnt : zs.length = nt) (hn : nt ≤ 1048576) :
    Calls Tryd.prog 4 #[.int .i64 (l : Int), .slice a nt c] w fun e w' => e = .returned (.bool true) ∧ Below w.heap.size w w' := by
  have HZ := hid hZ
  have HNT := hid hnt
  have hnw := fun wz => pnew_good l wz h1 h8
  have hO0 := Once.new h1 h8
  have hmm := @run_makeMap Tryd.prog
  clear hZ hnt h1 h8
  go_enter Tryd.func4, Tryd.ntmps4
  go_wp2_with (first
    | (go_at_call 5; refine (hnw _).mono ?_; rintro e w1 ⟨g, bm, rfl, hg, hbm, hP0, hb0⟩)
    | (go_at_call 15; refine (pnewreceiver_any _).mono ?_; rintro e w2 ⟨gv, rfl, hgv, hT0, hb2⟩))
  obtain ⟨gt, egt⟩ : ∃ gt, gt = w2.heap.size + 1 := ⟨_, rfl⟩
  obtain ⟨gd, egd⟩ : ∃ gd, gd = w2.heap.size := ⟨_, rfl⟩
  rw [← egt, ← egd]
  have hgd : w.heap.size ≤ gd := by have := hb0.size; have := hb2.size; omega
  have hgt : w.heap.size ≤ gt := by omega
  have hgv' : w.heap.size ≤ gv := by have := hb0.size; omega
  have n1 : g ≠ bm := hP0.ne
  have n2 : gv ≠ g := by have := hP0.lt; omega
  have n3 : gv ≠ bm := by have := hP0.2.1.lt; omega
  have n4 : gd ≠ g := by have := hP0.lt; have := hb2.size; omega
  have n5 : gd ≠ bm := by have := hP0.2.1.lt; have := hb2.size; omega
  have n6 : gd ≠ gv := by have := hT0.lt; omega
  have n7 : gt ≠ g := by have := hP0.lt; have := hb2.size; omega
  have n8 : gt ≠ bm := by have := hP0.2.1.lt; have := hb2.size; omega
  have n9 : gt ≠ gv := by have := hT0.lt; omega
  have n10 : gt ≠ gd := by omega
  go_loopw [10, 11] (fun vn vi wr => ∃ (k n : Nat) (m : SendM) (r : RecvM) (ds : List ByteArray) (id : Nat → Nat) (T : Nat → Bool), k ≤ nt ∧ vi = .int .i64 k ∧ vn = .int .i64 n ∧ n ≤ k ∧ Once m r ds id T n ∧ PSend wr g bm m ∧ RTakes 69 wr gv r ∧ DArr wr gd ds ∧ TMap wr gt T k ∧ Below w.heap.size w wr) (fun _ vi _ => nt - (intOf vi).toNat)
  case atStart =>
    have hbb : Below w2.heap.size w2 ((w2.alloc (.cells (((List.replicate 8 ByteArray.empty).map Value.string).toArray) 49)).alloc (.map #[] 0)) := ((Below.refl w2.heap.size w2).alloc (Nat.le_refl _) _).alloc (by simp) _
    have hb2' := hb0.trans (hb2.mono hb0.size)
    refine ⟨0, 0, SendM.new l, RecvM.new, List.replicate 8 ByteArray.empty, fun _ => 0, fun _ => false, by omega, rfl, rfl, by omega, hO0, (hP0.old hb2).old hbb, hT0.old hbb, ?_, ?_, hb2'.trans (hbb.mono hb2'.size)⟩
    · rw [egd]
      exact heap_alloc2_old w2 _ _
    · rw [egt]
      have := TMap.made (w2.alloc (.cells (((List.replicate 8 ByteArray.empty).map Value.string).toArray) 49))
      rw [show (w2.alloc (.cells (((List.replicate 8 ByteArray.empty).map Value.string).toArray) 49)).heap.size = w2.heap.size + 1 by simp] at this
      exact this
  case round =>
    clear hP0 hb0 hT0 hb2 hO0 hnw egd egt hmm hgv
    obtain ⟨k, n, m, r, ds, id, T, hk, rfl, rfl, hnk, hO, hP, hT, hD, hM, hB⟩ := hrel
    by_cases hlt : k < nt
    · obtain ⟨b, o, rfl, hC⟩ := HZ.out.at (i := k) (by rw [HNT.out]; exact hlt)
      have qq := hC k (by rw [HNT.out]; exact hlt)
      generalize zs.getD k 0 = x at *
      have q := cellOld hB qq
      clear hC
      obtain ⟨κ, eκ⟩ : ∃ κ : Nat, (κ : Int) = x % 8 := ⟨(x % 8).toNat, by omega⟩
      have hκ : κ < 8 := by omega
      have e7 : bits BinOp.and IntKind.i64 x 7 = (κ : Int) := by rw [eκ]; exact and_lowH x 3 (by omega)
      have e3 : bits BinOp.and IntKind.i64 (x / 8) 1 = (x / 8) % 2 := and_lowH (x / 8) 1 (by omega)
      have hn2 : n ≤ 1048576 := by omega
      rcases (show (x / 8) % 2 = 0 ∨ (x / 8) % 2 = 1 by omega) with h3 | h3
      · rw [h3] at e3
        clear h3 eκ
        have hq4 : (wr.alloc (.cells #[.int .u8 ((n : Int) / 16777216), .int .u8 ((n : Int) / 65536), .int .u8 ((n : Int) / 256 % 256), .int .u8 ((n : Int) % 256)] 5)).heap[wr.heap.size]? = _ := heap_alloc_new wr _
        have hRd : Rd .u8 (wr.alloc (.cells #[.int .u8 ((n : Int) / 16777216), .int .u8 ((n : Int) / 65536), .int .u8 ((n : Int) / 256 % 256), .int .u8 ((n : Int) % 256)] 5)) (some ⟨wr.heap.size, 0, none⟩) [(n : Int) / 16777216, (n : Int) / 65536, (n : Int) / 256 % 256, (n : Int) % 256] := fun _ => ⟨_, _, rfl, fun j hj => by
          rw [Nat.zero_add, cell_of_row _ _ _ _ _ _ hq4]
          have hor : j = 0 ∨ j = 1 ∨ j = 2 ∨ j = 3 := by simp at hj; omega
          rcases hor with rfl | rfl | rfl | rfl <;> rfl⟩
        have hcv := conv_rd hRd 4
        dsimp only [List.length_cons, List.length_nil] at hcv
        clear hRd hq4
        go_upto_region 14 with fail
        rw [name_of n hn2]
        have hbA : Below wr.heap.size wr (wr.alloc (.cells #[.int .u8 ((n : Int) / 16777216), .int .u8 ((n : Int) / 65536), .int .u8 ((n : Int) / 256 % 256), .int .u8 ((n : Int) % 256)] 5)) := (Below.refl _ wr).alloc (Nat.le_refl _) _
        have hBA := hB.trans (hbA.mono hB.size)
        have hKA : Kept [] wr (wr.alloc (.cells #[.int .u8 ((n : Int) / 16777216), .int .u8 ((n : Int) / 65536), .int .u8 ((n : Int) / 256 % 256), .int .u8 ((n : Int) % 256)] 5)) := Kept.of_below hbA
        have hPA := hP.old hbA
        have hTA := hT.old hbA
        have hDA := hD.kept hKA (by simp)
        have hMA := hM.kept hKA (by simp)
        clear hcv hP hT hD hM hbA hKA q
        generalize (wr.alloc (.cells #[.int .u8 ((n : Int) / 16777216), .int .u8 ((n : Int) / 65536), .int .u8 ((n : Int) / 256 % 256), .int .u8 ((n : Int) % 256)] 5)) = wA at *
        have hps := psubmit_any hPA (nameB n)
        have hlen := hO.ok.len
        have hll := SendM.least_le hlen
        by_cases hl8 : m.least = 8
        · rw [sub_full n hl8] at hps
          dsimp only at hps
          go_wp2_with (go_at_call 6; refine hps.mono ?_; rintro e w3 ⟨rfl, hP3, hk3⟩)
          have hB3 := hBA.trans (hk3.below hBA.size (mem2H hg hbm))
          exact ⟨⟨k + 1, n, m, r, ds, id, T, by omega, by go_num, rfl, by omega, hO, hP3, hTA.kept hk3.blocksH (by simp [n2, n3]), hDA.kept hk3 (by simp [n4, n5]), (hMA.kept hk3 (by simp [n7, n8])).mono (by omega), hB3⟩, by simp [intOf]; omega⟩
        · have hl : m.least < 8 := by omega
          rw [sub_good n hl8] at hps
          have hO' := hO.submit hl
          have hdl := hO.dlen
          generalize hfe : m.least = f at *
          dsimp only at hps
          go_wp2_with (go_at_call 6; refine hps.mono ?_; rintro e w3 ⟨rfl, hP3, hk3⟩; have hD3 := hDA.kept hk3 (by simp [n4, n5]); have cd := hD3.cell hdl hl; have fd := hD3.free f)
          have hB3 := hBA.trans (hk3.below hBA.size (mem2H hg hbm))
          have hKs : Kept [gd] w3 (w3.setCell ⟨gd, f, none⟩ (.string (nameB n))) := (Kept.refl [gd] w3).setCell (by simp) _
          have hB4 := hB3.trans (hKs.below hB3.size (mem1H hgd))
          exact ⟨⟨k + 1, n + 1, m.set f ((m.tat f).given (nameB n)), r, ds.set f (nameB n), fun k => if k = f then n else id k, T, by omega, by go_num, by go_num, by omega, hO', hP3.kept hKs (by simpa using n4.symm) (by simpa using n5.symm), (hTA.kept hk3.blocksH (by simp [n2, n3])).kept hKs.blocksH (by simpa using n6.symm), hD3.set f (nameB n), ((hMA.kept hk3 (by simp [n7, n8])).kept hKs (by simpa using n10)).mono (by omega), hB4⟩, by simp [intOf]; omega⟩
      · rw [h3] at e3
        clear h3 eκ
        have hVr := hV.old hB
        have hps := pnext_any hP hVr (κ : Int)
        have hlen := hO.ok.len
        have hpe : ¬ procErr (κ : Int) = 1 := by unfold procErr; rw [if_pos (by omega)]; decide
        cases hbz : (m.tat κ).busy with
        | false =>
          have hnx : m.nxt (κ : Int) = ⟨.zero, 6, m⟩ := by unfold SendM.nxt; rw [if_neg hpe, Int.toNat_natCast, if_pos hbz]
          rw [hnx] at hps
          unfold ShotM.val ShotM.zero at hps
          dsimp only at hps
          clear hnx hpe hbz
          go_wp2_with (go_at_call 8; refine hps.mono ?_; rintro e w3 ⟨rfl, hP3, hk3⟩)
          have hB3 := hB.trans (hk3.below hB.size (mem2H hg hbm))
          have hbz : Below w3.heap.size w3 (w3.alloc (.cells #[.int .i64 0, .int .i64 0, .bool false, .string { data := #[] }] 38)) := (Below.refl _ w3).alloc (Nat.le_refl _) _
          have hKz : Kept [] w3 (w3.alloc (.cells #[.int .i64 0, .int .i64 0, .bool false, .string { data := #[] }] 38)) := Kept.of_below hbz
          exact ⟨⟨k + 1, n, m, r, ds, id, T, by omega, by go_num, rfl, by omega, hO, hP3.old hbz, (hT.kept hk3.blocksH (by simp [n2, n3])).old hbz, (hD.kept hk3 (by simp [n4, n5])).kept hKz (by simp), ((hM.kept hk3 (by simp [n7, n8])).kept hKz (by simp)).mono (by omega), hB3.trans (hbz.mono hB3.size)⟩, by simp [intOf]; omega⟩
        | true =>
          have hop := hO.shut κ hκ hbz
          obtain ⟨hd1, hd2, hd3⟩ := hO.data κ hκ hbz
          have hnx : m.nxt (κ : Int) = ⟨⟨(κ : Int), verAt (m.tat κ).tries, (m.tat κ).flag, nameB (id κ)⟩, 0, m.set κ (m.tat κ).tried⟩ := by unfold SendM.nxt; rw [if_neg hpe, Int.toNat_natCast, if_neg (by rw [hbz]; decide), if_neg (by rw [hop]; decide), hd1]
          rw [hnx] at hps
          unfold ShotM.val at hps
          dsimp only at hps
          have HOP := hid hop
          have HBZ := hid hbz
          have HD1 := hid hd1
          have HPE := hid hpe
          have hdl := hO.dlen
          have hi32 : id κ < 4294967296 := by omega
          have e4 : bits BinOp.and IntKind.i64 (x / 16) 1 = (x / 16) % 2 := and_lowH (x / 16) 1 (by omega)
          have e5 : bits BinOp.and IntKind.i64 (x / 32) 1 = (x / 32) % 2 := and_lowH (x / 32) 1 (by omega)
          clear hnx hpe hbz hop hd1
          go_upto_region 22 with (go_at_call 8; refine hps.mono ?_; rintro e w3 ⟨rfl, hP3, hk3⟩)
          have hB3 := hB.trans (hk3.below hB.size (mem2H hg hbm))
          have hbz : Below w3.heap.size w3 (w3.alloc (.cells #[.int .i64 (κ : Int), .int .i64 (verAt (m.tat κ).tries), .bool (m.tat κ).flag, .string (nameB (id κ))] 38)) := (Below.refl _ w3).alloc (Nat.le_refl _) _
          have hKz : Kept [] w3 (w3.alloc (.cells #[.int .i64 (κ : Int), .int .i64 (verAt (m.tat κ).tries), .bool (m.tat κ).flag, .string (nameB (id κ))] 38)) := Kept.of_below hbz
          have hP4 := hP3.old hbz
          have hT3 := hT.kept hk3.blocksH (by simp [n2, n3])
          have hD3 := hD.kept hk3 (by simp [n4, n5])
          have hM3 := hM.kept hk3 (by simp [n7, n8])
          have m1 : w3.heap.size ≠ g := by have := hP3.lt; omega
          have m2 : w3.heap.size ≠ bm := by have := hP3.2.1.lt; omega
          have m3 : w3.heap.size ≠ gv := by have := hT3.lt; omega
          have m4 : w3.heap.size ≠ gd := by have := hD3.lt; omega
          have m5 : w3.heap.size ≠ gt := by have := hM3.lt; omega
          have hT4 := hT3.old hbz
          have hD4 := hD3.kept hKz (by simp)
          have hM4 := hM3.kept hKz (by simp)
          have hB4 := hB3.trans (hbz.mono hB3.size)
          have hbx0 : w.heap.size ≤ w3.heap.size := hB3.size
          have hqx : (w3.alloc (.cells #[.int .i64 (κ : Int), .int .i64 (verAt (m.tat κ).tries), .bool (m.tat κ).flag, .string (nameB (id κ))] 38)).heap[w3.heap.size]? = _ := heap_alloc_new w3 _
          clear hP hT hD hM hT3 hD3 hM3 hP3 hbz hKz hk3 hB3 hps q hVr hB
          generalize (w3.alloc (.cells #[.int .i64 (κ : Int), .int .i64 (verAt (m.tat κ).tries), .bool (m.tat κ).flag, .string (nameB (id κ))] 38)) = w4 at *
          generalize w3.heap.size = bx at *
          have q := cellOld hB4 qq
          have cd := hD4.cell hdl hκ
          rw [hd2] at cd
          have y0 : w4.cell? ⟨bx, 0, none⟩ = some (.int .i64 (κ : Int)) := by rw [cell_of_row _ _ _ _ _ _ hqx]; rfl
          have y1 : w4.cell? ⟨bx, 1, none⟩ = some (.int .i64 (verAt (m.tat κ).tries)) := by rw [cell_of_row _ _ _ _ _ _ hqx]; rfl
          have y2 : w4.cell? ⟨bx, 2, none⟩ = some (.bool (m.tat κ).flag) := by rw [cell_of_row _ _ _ _ _ _ hqx]; rfl
          have y3 : w4.cell? ⟨bx, 3, none⟩ = some (.string (nameB (id κ))) := by rw [cell_of_row _ _ _ _ _ _ hqx]; rfl
          have z3 := frozen_of_row w4 bx 3 _ _ hqx
          rcases (show (x / 16) % 2 = 0 ∨ (x / 16) % 2 = 1 by omega) with h4 | h4
          · rw [h4] at e4
            clear h4
            go_upto_region 23 with fail
            go_region
            go_upto_region 27 with fail
            have hK5 : Kept [bx] w4 (w4.setCell ⟨bx, 3, none⟩ (.string { data := #[] })).drew := ((Kept.refl [bx] w4).setCell (by simp) _).drew
            have y3' : (w4.setCell ⟨bx, 3, none⟩ (.string { data := #[] })).drew.cell? ⟨bx, 3, none⟩ = some (.string { data := #[] }) := by
              have hq3 := heap_setCell_same w4 bx 3 _ _ (.string { data := #[] }) hqx
              rw [World.cell?_drew, cell_of_row _ _ _ _ _ _ hq3]
              rfl
            have y0 : (w4.setCell ⟨bx, 3, none⟩ (.string { data := #[] })).drew.cell? ⟨bx, 0, none⟩ = some (.int .i64 (κ : Int)) := by
              have hq3 := heap_setCell_same w4 bx 3 _ _ (.string { data := #[] }) hqx
              rw [World.cell?_drew, cell_of_row _ _ _ _ _ _ hq3]
              rfl
            have y1 : (w4.setCell ⟨bx, 3, none⟩ (.string { data := #[] })).drew.cell? ⟨bx, 1, none⟩ = some (.int .i64 (verAt (m.tat κ).tries)) := by
              have hq3 := heap_setCell_same w4 bx 3 _ _ (.string { data := #[] }) hqx
              rw [World.cell?_drew, cell_of_row _ _ _ _ _ _ hq3]
              rfl
            have y2 : (w4.setCell ⟨bx, 3, none⟩ (.string { data := #[] })).drew.cell? ⟨bx, 2, none⟩ = some (.bool (m.tat κ).flag) := by
              have hq3 := heap_setCell_same w4 bx 3 _ _ (.string { data := #[] }) hqx
              rw [World.cell?_drew, cell_of_row _ _ _ _ _ _ hq3]
              rfl
            clear y3 z3
            generalize (w4.setCell ⟨bx, 3, none⟩ (.string { data := #[] })).drew = w5 at *
            have hP5 := hP4.kept hK5 (by simpa using m1.symm) (by simpa using m2.symm)
            have hT5 := hT4.kept hK5.blocksH (by simpa using m3.symm)
            have hD5 := hD4.kept hK5 (by simpa using m4.symm)
            have hM5 := hM4.kept hK5 (by simpa using m5.symm)
            have hB5 := hB4.trans (hK5.below hB4.size (mem1H hbx0))
            clear hP4 hT4 hD4 hM4 hK5 hB4 q cd hqx
            have hpt := ptake_good hT5 κ (verAt (m.tat κ).tries) (m.tat κ).flag { data := #[] } false hκ (verAt_ok _) (by decide)
            have hsy := hO.says hκ HBZ.out (verAt (m.tat κ).tries) (verAt_ok _) false { data := #[] } (by decide) (by intro h; cases h)
            have HON := hid (hO.next hκ HBZ.out (verAt (m.tat κ).tries) (verAt_ok _) false { data := #[] } (by decide))
            rw [hsy] at hpt
            unfold TookM.val ShotM.val at hpt
            dsimp only at hpt
            generalize r.next ⟨(κ : Int), verAt (m.tat κ).tries, (m.tat κ).flag, { data := #[] }⟩ false = r' at *
            clear hsy
            cases hTi : T (id κ) with
            | false =>
              have hfr : Once.fresh T (id κ) false = false := by simp [Once.fresh]
              rw [hfr, hTi] at hpt
              rw [if_neg (by decide), show (false || false) = false from rfl] at hpt
              have HTe := hid (show (fun i => T i || (decide (i = id κ) && Once.fresh T (id κ) false)) = T by funext i; rw [hfr]; simp)
              have HTI := hid hTi
              clear hfr hTi
              have hpa := fun (wz : World) (h : PSend wz g bm (m.set κ (m.tat κ).tried)) => pans_any h (κ : Int) false
              rw [ans_good hlen hκ HBZ.out false] at hpa
              dsimp only at hpa
              obtain ⟨hfl, hda⟩ := ans_flag hlen hκ false
              have hON := HON.out ((m.set κ (m.tat κ).tried).answered κ false) hfl rfl hda (answered_right (m.set κ (m.tat κ).tried) κ false)
              rw [HTe.out] at hON
              generalize (m.set κ (m.tat κ).tried).answered κ false = tt at *
              generalize (m.set κ (m.tat κ).tried).done κ false = dn at *
              have HONN := hid hON
              clear hON hfl hda HON
              go_wp2_with (first
                | (go_at_call 16; refine hpt.mono ?_; rintro e w6 ⟨rfl, hT6, hk6⟩; have hP6 := hP5.kept hk6 (by simpa using n2.symm) (by simpa using n3.symm); have hD6 := hD5.kept hk6 (by simpa using n6); have hM6 := hM5.kept hk6 (by simpa using n9); have hB6 := hB5.trans (hk6.below hB5.size (mem1H hgv')); have hT7 := hT6; have cd := hD6.cell hdl hκ; rw [hd2] at cd; have q6 := cellOld hB6 qq)
                | (go_at_call 10; refine (hpa _ hP6).mono ?_; rintro e w8 ⟨rfl, hP8, hk8⟩))
              have hB8 := hB6.trans (hk8.below hB6.size (mem2H hg hbm))
              exact ⟨⟨k + 1, n, m.set κ tt, r', ds, id, T, by omega, by go_num, rfl, by omega, HONN.out, hP8, hT7.kept hk8.blocksH (by simp [n2, n3]), hD6.kept hk8 (by simp [n4, n5]), (hM6.kept hk8 (by simp [n7, n8])).mono (by omega), hB8⟩, by simp [intOf]; omega⟩
            | true =>
              have hfr : Once.fresh T (id κ) false = false := by simp [Once.fresh]
              rw [hfr, hTi] at hpt
              rw [if_neg (by decide), show (true || false) = true from rfl] at hpt
              have HTe := hid (show (fun i => T i || (decide (i = id κ) && Once.fresh T (id κ) false)) = T by funext i; rw [hfr]; simp)
              have HTI := hid hTi
              clear hfr hTi
              rcases (show (x / 32) % 2 = 0 ∨ (x / 32) % 2 = 1 by omega) with h5 | h5
              · rw [h5] at e5
                clear h5
                have hpa := fun (wz : World) (h : PSend wz g bm (m.set κ (m.tat κ).tried)) => pans_any h (κ : Int) false
                rw [ans_good hlen hκ HBZ.out false] at hpa
                dsimp only at hpa
                obtain ⟨hfl, hda⟩ := ans_flag hlen hκ false
                have hON := HON.out ((m.set κ (m.tat κ).tried).answered κ false) hfl rfl hda (answered_right (m.set κ (m.tat κ).tried) κ false)
                rw [HTe.out] at hON
                generalize (m.set κ (m.tat κ).tried).answered κ false = tt at *
                generalize (m.set κ (m.tat κ).tried).done κ false = dn at *
                have HONN := hid hON
                clear hON hfl hda HON
                go_wp2_with (first
                  | (go_at_call 16; refine hpt.mono ?_; rintro e w6 ⟨rfl, hT6, hk6⟩; have hP6 := hP5.kept hk6 (by simpa using n2.symm) (by simpa using n3.symm); have hD6 := hD5.kept hk6 (by simpa using n6); have hM6 := hM5.kept hk6 (by simpa using n9); have hB6 := hB5.trans (hk6.below hB5.size (mem1H hgv')); have hT7 := hT6; have cd := hD6.cell hdl hκ; rw [hd2] at cd; have q6 := cellOld hB6 qq; have hl6 := hM6.look hi32; rw [HTI.out, if_pos rfl] at hl6)
                  | (go_at_call 10; refine (hpa _ hP6).mono ?_; rintro e w8 ⟨rfl, hP8, hk8⟩))
                have hB8 := hB6.trans (hk8.below hB6.size (mem2H hg hbm))
                exact ⟨⟨k + 1, n, m.set κ tt, r', ds, id, T, by omega, by go_num, rfl, by omega, HONN.out, hP8, hT7.kept hk8.blocksH (by simp [n2, n3]), hD6.kept hk8 (by simp [n4, n5]), (hM6.kept hk8 (by simp [n7, n8])).mono (by omega), hB8⟩, by simp [intOf]; omega⟩
              · rw [h5] at e5
                clear h5
                have hpa := fun (wz : World) (h : PSend wz g bm (m.set κ (m.tat κ).tried)) => pans_any h (κ : Int) true
                rw [ans_good hlen hκ HBZ.out true] at hpa
                dsimp only at hpa
                obtain ⟨hfl, hda⟩ := ans_flag hlen hκ true
                have hON := HON.out ((m.set κ (m.tat κ).tried).answered κ true) hfl rfl hda (answered_right (m.set κ (m.tat κ).tried) κ true)
                rw [HTe.out] at hON
                generalize (m.set κ (m.tat κ).tried).answered κ true = tt at *
                generalize (m.set κ (m.tat κ).tried).done κ true = dn at *
                have HONN := hid hON
                clear hON hfl hda HON
                go_wp2_with (first
                  | (go_at_call 16; refine hpt.mono ?_; rintro e w6 ⟨rfl, hT6, hk6⟩; have hP6 := hP5.kept hk6 (by simpa using n2.symm) (by simpa using n3.symm); have hD6 := hD5.kept hk6 (by simpa using n6); have hM6 := hM5.kept hk6 (by simpa using n9); have hB6 := hB5.trans (hk6.below hB5.size (mem1H hgv')); have hT7 := hT6; have cd := hD6.cell hdl hκ; rw [hd2] at cd; have q6 := cellOld hB6 qq; have hl6 := hM6.look hi32; rw [HTI.out, if_pos rfl] at hl6)
                  | (go_at_call 10; refine (hpa _ hP6).mono ?_; rintro e w8 ⟨rfl, hP8, hk8⟩))
                have hB8 := hB6.trans (hk8.below hB6.size (mem2H hg hbm))
                exact ⟨⟨k + 1, n, m.set κ tt, r', ds, id, T, by omega, by go_num, rfl, by omega, HONN.out, hP8, hT7.kept hk8.blocksH (by simp [n2, n3]), hD6.kept hk8 (by simp [n4, n5]), (hM6.kept hk8 (by simp [n7, n8])).mono (by omega), hB8⟩, by simp [intOf]; omega⟩
          · rw [h4] at e4
            clear h4
            go_upto_region 23 with fail
            go_region
            go_upto_region 27 with fail
            have hK5 : Kept [bx] w4 w4.drew := (Kept.refl [bx] w4).drew
            have y3' : w4.drew.cell? ⟨bx, 3, none⟩ = some (.string (nameB (id κ))) := y3
            have y0 : w4.drew.cell? ⟨bx, 0, none⟩ = some (.int .i64 (κ : Int)) := y0
            have y1 : w4.drew.cell? ⟨bx, 1, none⟩ = some (.int .i64 (verAt (m.tat κ).tries)) := y1
            have y2 : w4.drew.cell? ⟨bx, 2, none⟩ = some (.bool (m.tat κ).flag) := y2
            clear y3 z3
            generalize w4.drew = w5 at *
            have hP5 := hP4.kept hK5 (by simpa using m1.symm) (by simpa using m2.symm)
            have hT5 := hT4.kept hK5.blocksH (by simpa using m3.symm)
            have hD5 := hD4.kept hK5 (by simpa using m4.symm)
            have hM5 := hM4.kept hK5 (by simpa using m5.symm)
            have hB5 := hB4.trans (hK5.below hB4.size (mem1H hbx0))
            clear hP4 hT4 hD4 hM4 hK5 hB4 q cd hqx
            have hpt := ptake_good hT5 κ (verAt (m.tat κ).tries) (m.tat κ).flag (nameB (id κ)) true hκ (verAt_ok _) (by rw [nameB_size]; omega)
            have hsy := hO.says hκ HBZ.out (verAt (m.tat κ).tries) (verAt_ok _) true (nameB (id κ)) (by rw [nameB_size]; omega) (by intro _; rfl)
            have HON := hid (hO.next hκ HBZ.out (verAt (m.tat κ).tries) (verAt_ok _) true (nameB (id κ)) (by rw [nameB_size]; omega))
            rw [hsy] at hpt
            unfold TookM.val ShotM.val at hpt
            dsimp only at hpt
            generalize r.next ⟨(κ : Int), verAt (m.tat κ).tries, (m.tat κ).flag, (nameB (id κ))⟩ true = r' at *
            clear hsy
            cases hTi : T (id κ) with
            | false =>
              have hfr : Once.fresh T (id κ) true = true := by simp [Once.fresh, hTi]
              rw [hfr, hTi] at hpt
              rw [if_pos rfl, show (false || true) = true from rfl] at hpt
              have HTe := hid (show (fun i => T i || (decide (i = id κ) && Once.fresh T (id κ) true)) = (fun j => T j || decide (j = id κ)) by funext i; rw [hfr, Bool.and_true])
              have HTI := hid hTi
              clear hfr hTi
              rcases (show (x / 32) % 2 = 0 ∨ (x / 32) % 2 = 1 by omega) with h5 | h5
              · rw [h5] at e5
                clear h5
                have hpa := fun (wz : World) (h : PSend wz g bm (m.set κ (m.tat κ).tried)) => pans_any h (κ : Int) false
                rw [ans_good hlen hκ HBZ.out false] at hpa
                dsimp only at hpa
                obtain ⟨hfl, hda⟩ := ans_flag hlen hκ false
                have hON := HON.out ((m.set κ (m.tat κ).tried).answered κ false) hfl rfl hda (answered_right (m.set κ (m.tat κ).tried) κ false)
                rw [HTe.out] at hON
                generalize (m.set κ (m.tat κ).tried).answered κ false = tt at *
                generalize (m.set κ (m.tat κ).tried).done κ false = dn at *
                have HONN := hid hON
                clear hON hfl hda HON
                go_wp2_with (first
                  | (go_at_call 16; refine hpt.mono ?_; rintro e w6 ⟨rfl, hT6, hk6⟩; have hP6 := hP5.kept hk6 (by simpa using n2.symm) (by simpa using n3.symm); have hD6 := hD5.kept hk6 (by simpa using n6); have hM6 := hM5.kept hk6 (by simpa using n9); have hB6 := hB5.trans (hk6.below hB5.size (mem1H hgv')); have hl6 := hM6.look hi32; rw [HTI.out] at hl6; simp only [Bool.false_eq_true, if_false] at hl6; obtain ⟨w7, hup, hM7, hk7⟩ := hM6.put hi32 (by unfold maxLen; omega); have hP7 := hP6.kept hk7 (by simpa using n7.symm) (by simpa using n8.symm); have hD7 := hD6.kept hk7 (by simpa using n10.symm); have hT7 := hT6.kept hk7.blocksH (by simpa using n9.symm); have hB7 := hB6.trans (hk7.below hB6.size (mem1H hgt)); have cd := hD7.cell hdl hκ; rw [hd2] at cd; have q7 := cellOld hB7 qq; have hl7 := hM7.look hi32; simp only [HTI.out, Bool.false_or, decide_true, if_true] at hl7)
                  | (go_at_call 10; refine (hpa _ hP7).mono ?_; rintro e w8 ⟨rfl, hP8, hk8⟩))
                have hB8 := hB7.trans (hk8.below hB7.size (mem2H hg hbm))
                exact ⟨⟨k + 1, n, m.set κ tt, r', ds, id, (fun j => T j || decide (j = id κ)), by omega, by go_num, rfl, by omega, HONN.out, hP8, hT7.kept hk8.blocksH (by simp [n2, n3]), hD7.kept hk8 (by simp [n4, n5]), (hM7.kept hk8 (by simp [n7, n8])).mono (by omega), hB8⟩, by simp [intOf]; omega⟩
              · rw [h5] at e5
                clear h5
                have hpa := fun (wz : World) (h : PSend wz g bm (m.set κ (m.tat κ).tried)) => pans_any h (κ : Int) true
                rw [ans_good hlen hκ HBZ.out true] at hpa
                dsimp only at hpa
                obtain ⟨hfl, hda⟩ := ans_flag hlen hκ true
                have hON := HON.out ((m.set κ (m.tat κ).tried).answered κ true) hfl rfl hda (answered_right (m.set κ (m.tat κ).tried) κ true)
                rw [HTe.out] at hON
                generalize (m.set κ (m.tat κ).tried).answered κ true = tt at *
                generalize (m.set κ (m.tat κ).tried).done κ true = dn at *
                have HONN := hid hON
                clear hON hfl hda HON
                go_wp2_with (first
                  | (go_at_call 16; refine hpt.mono ?_; rintro e w6 ⟨rfl, hT6, hk6⟩; have hP6 := hP5.kept hk6 (by simpa using n2.symm) (by simpa using n3.symm); have hD6 := hD5.kept hk6 (by simpa using n6); have hM6 := hM5.kept hk6 (by simpa using n9); have hB6 := hB5.trans (hk6.below hB5.size (mem1H hgv')); have hl6 := hM6.look hi32; rw [HTI.out] at hl6; simp only [Bool.false_eq_true, if_false] at hl6; obtain ⟨w7, hup, hM7, hk7⟩ := hM6.put hi32 (by unfold maxLen; omega); have hP7 := hP6.kept hk7 (by simpa using n7.symm) (by simpa using n8.symm); have hD7 := hD6.kept hk7 (by simpa using n10.symm); have hT7 := hT6.kept hk7.blocksH (by simpa using n9.symm); have hB7 := hB6.trans (hk7.below hB6.size (mem1H hgt)); have cd := hD7.cell hdl hκ; rw [hd2] at cd; have q7 := cellOld hB7 qq; have hl7 := hM7.look hi32; simp only [HTI.out, Bool.false_or, decide_true, if_true] at hl7)
                  | (go_at_call 10; refine (hpa _ hP7).mono ?_; rintro e w8 ⟨rfl, hP8, hk8⟩))
                have hB8 := hB7.trans (hk8.below hB7.size (mem2H hg hbm))
                exact ⟨⟨k + 1, n, m.set κ tt, r', ds, id, (fun j => T j || decide (j = id κ)), by omega, by go_num, rfl, by omega, HONN.out, hP8, hT7.kept hk8.blocksH (by simp [n2, n3]), hD7.kept hk8 (by simp [n4, n5]), (hM7.kept hk8 (by simp [n7, n8])).mono (by omega), hB8⟩, by simp [intOf]; omega⟩
            | true =>
              have hfr : Once.fresh T (id κ) true = false := by simp [Once.fresh, hTi]
              rw [hfr, hTi] at hpt
              rw [if_neg (by decide), show (true || true) = true from rfl] at hpt
              have HTe := hid (show (fun i => T i || (decide (i = id κ) && Once.fresh T (id κ) true)) = T by funext i; rw [hfr]; simp)
              have HTI := hid hTi
              clear hfr hTi
              rcases (show (x / 32) % 2 = 0 ∨ (x / 32) % 2 = 1 by omega) with h5 | h5
              · rw [h5] at e5
                clear h5
                have hpa := fun (wz : World) (h : PSend wz g bm (m.set κ (m.tat κ).tried)) => pans_any h (κ : Int) false
                rw [ans_good hlen hκ HBZ.out false] at hpa
                dsimp only at hpa
                obtain ⟨hfl, hda⟩ := ans_flag hlen hκ false
                have hON := HON.out ((m.set κ (m.tat κ).tried).answered κ false) hfl rfl hda (answered_right (m.set κ (m.tat κ).tried) κ false)
                rw [HTe.out] at hON
                generalize (m.set κ (m.tat κ).tried).answered κ false = tt at *
                generalize (m.set κ (m.tat κ).tried).done κ false = dn at *
                have HONN := hid hON
                clear hON hfl hda HON
                go_wp2_with (first
                  | (go_at_call 16; refine hpt.mono ?_; rintro e w6 ⟨rfl, hT6, hk6⟩; have hP6 := hP5.kept hk6 (by simpa using n2.symm) (by simpa using n3.symm); have hD6 := hD5.kept hk6 (by simpa using n6); have hM6 := hM5.kept hk6 (by simpa using n9); have hB6 := hB5.trans (hk6.below hB5.size (mem1H hgv')); have hT7 := hT6; have cd := hD6.cell hdl hκ; rw [hd2] at cd; have q6 := cellOld hB6 qq; have hl6 := hM6.look hi32; rw [HTI.out, if_pos rfl] at hl6)
                  | (go_at_call 10; refine (hpa _ hP6).mono ?_; rintro e w8 ⟨rfl, hP8, hk8⟩))
                have hB8 := hB6.trans (hk8.below hB6.size (mem2H hg hbm))
                exact ⟨⟨k + 1, n, m.set κ tt, r', ds, id, T, by omega, by go_num, rfl, by omega, HONN.out, hP8, hT7.kept hk8.blocksH (by simp [n2, n3]), hD6.kept hk8 (by simp [n4, n5]), (hM6.kept hk8 (by simp [n7, n8])).mono (by omega), hB8⟩, by simp [intOf]; omega⟩
              · rw [h5] at e5
                clear h5
                have hpa := fun (wz : World) (h : PSend wz g bm (m.set κ (m.tat κ).tried)) => pans_any h (κ : Int) true
                rw [ans_good hlen hκ HBZ.out true] at hpa
                dsimp only at hpa
                obtain ⟨hfl, hda⟩ := ans_flag hlen hκ true
                have hON := HON.out ((m.set κ (m.tat κ).tried).answered κ true) hfl rfl hda (answered_right (m.set κ (m.tat κ).tried) κ true)
                rw [HTe.out] at hON
                generalize (m.set κ (m.tat κ).tried).answered κ true = tt at *
                generalize (m.set κ (m.tat κ).tried).done κ true = dn at *
                have HONN := hid hON
                clear hON hfl hda HON
                go_wp2_with (first
                  | (go_at_call 16; refine hpt.mono ?_; rintro e w6 ⟨rfl, hT6, hk6⟩; have hP6 := hP5.kept hk6 (by simpa using n2.symm) (by simpa using n3.symm); have hD6 := hD5.kept hk6 (by simpa using n6); have hM6 := hM5.kept hk6 (by simpa using n9); have hB6 := hB5.trans (hk6.below hB5.size (mem1H hgv')); have hT7 := hT6; have cd := hD6.cell hdl hκ; rw [hd2] at cd; have q6 := cellOld hB6 qq; have hl6 := hM6.look hi32; rw [HTI.out, if_pos rfl] at hl6)
                  | (go_at_call 10; refine (hpa _ hP6).mono ?_; rintro e w8 ⟨rfl, hP8, hk8⟩))
                have hB8 := hB6.trans (hk8.below hB6.size (mem2H hg hbm))
                exact ⟨⟨k + 1, n, m.set κ tt, r', ds, id, T, by omega, by go_num, rfl, by omega, HONN.out, hP8, hT7.kept hk8.blocksH (by simp [n2, n3]), hD6.kept hk8 (by simp [n4, n5]), (hM6.kept hk8 (by simp [n7, n8])).mono (by omega), hB8⟩, by simp [intOf]; omega⟩
    · have e : k = nt := by omega
      subst e
      go_wp2_with fail
      go_ret
      exact ⟨rfl, hB⟩
end Go.Proofs.YtpeidccpplfbaaeDoor
