import Derived.Test.YtbmdjfolfmgmmagK16
namespace Go.Proofs.Ytbmdjfolfmgmmag
open Go.ChangeShapes Go.WideShapes Go.ChangeAt Go.RowKit
structure PGv (w : World) (g : Nat) (v : Value) (L : List ByteArray) (m : SdM) : Prop where
  hd : At w g 34 [.int .i64 m.key, v, .int .i64 (m.beg : Int)]
  row : w.ownsRow 0 9 1 v L.length (L.map Value.string)
  ne : g ∉ ownB v
  ok : m.Ok
  len : L.length = m.nxt
  wait : L.drop m.beg = m.wait
  small : ∀ i, i < L.length → (L.getD i ByteArray.empty).size ≤ 500
def gvF (g : Nat) (v : Value) : List Nat := g :: ownB v
theorem PGv.kept {w w' : World} {g : Nat} {v : Value} {L : List ByteArray} {m : SdM} {S : List Nat} (h : PGv w g v L m) (hk : Kept S w w') (hn : ∀ x ∈ gvF g v, x ∉ S) : PGv w' g v L m :=
  ⟨h.hd.kept hk (hn g List.mem_cons_self), row_kept h.row hk (fun x hx => hn x (List.mem_cons_of_mem _ hx)), h.ne, h.ok, h.len, h.wait, h.small⟩
theorem PGv.lt {w : World} {g : Nat} {v : Value} {L : List ByteArray} {m : SdM} (h : PGv w g v L m) : ∀ x ∈ gvF g v, x < w.heap.size := fun x hx => by
  rcases List.mem_cons.1 hx with rfl | hx
  · exact h.hd.lt
  · exact (row_new h.row x hx).2
theorem set_three {w2 : World} {G g b o n N c : Nat} {k : Int} {D : ByteArray} (h1 : g ≠ G) (h2 : b ≠ G) (q : w2.cell? ⟨g, 1, none⟩ = some (.slice (some ⟨b, o, none⟩) N c) ∧ w2.cell? ⟨g, 0, none⟩ = some (.int .i64 k) ∧ w2.cell? ⟨b, o + n, none⟩ = some (.string D)) (x y z : Value) :
    (((w2.setCell ⟨G, 0, none⟩ x).setCell ⟨G, 1, none⟩ y).setCell ⟨G, 2, none⟩ z).cell? ⟨g, 1, none⟩ = some (.slice (some ⟨b, o, none⟩) N c) ∧ (((w2.setCell ⟨G, 0, none⟩ x).setCell ⟨G, 1, none⟩ y).setCell ⟨G, 2, none⟩ z).cell? ⟨g, 0, none⟩ = some (.int .i64 k) ∧ (((w2.setCell ⟨G, 0, none⟩ x).setCell ⟨G, 1, none⟩ y).setCell ⟨G, 2, none⟩ z).cell? ⟨b, o + n, none⟩ = some (.string D) := by
  have hk : Kept [G] w2 (((w2.setCell ⟨G, 0, none⟩ x).setCell ⟨G, 1, none⟩ y).setCell ⟨G, 2, none⟩ z) := (((Kept.refl _ _).setCell (by simp) _).setCell (by simp) _).setCell (by simp) _
  exact ⟨keptCellQ hk q.1 (by simpa using h1), keptCellQ hk q.2.1 (by simpa using h1), keptCellQ hk q.2.2 (by simpa using h2)⟩
set_option maxRecDepth 100000 in
set_option maxHeartbeats 1000000 in
theorem rpacket_any {w : World} {g : Nat} {v : Value} {L : List ByteArray} {m : SdM} (h : PGv w g v L m) (n : Nat) (hn : n < L.length) :
    Calls Try.prog 24 #[.pointer (some ⟨g, 0, none⟩), .int .i64 (n : Int)] w fun e w' => e = .returned (pktG m.key n (L.getD n ByteArray.empty)).val ∧ Below w.heap.size w w' := by
  have hb0 : Below w.heap.size w (w.alloc (.cells #[.int .i64 0, .string { data := #[] }, .string { data := #[] }] 43)) := (Below.refl _ w).alloc (Nat.le_refl _) _
  have h0 := h.kept (S := []) (Kept.of_below hb0) (by simp)
  have hnm : n < 16777216 := by
    have := h.len
    have := h.ok.few
    omega
  have hsm := h.small n hn
  have cC := fun wz => rcovered_any (L.getD n ByteArray.empty) m.key n wz hsm h.ok.key (by omega)
  have cS := fun wz => rsealing_any (L.getD n ByteArray.empty) n wz hsm hnm
  have H := hid (show Value.agg #[.int .i64 ((n : Int) % 4096), .string (hidG (L.getD n ByteArray.empty) (seedG m.key n)), .string (sealG n (L.getD n ByteArray.empty))] = (pktG m.key n (L.getD n ByteArray.empty)).val by unfold pktG PktM.val; simp)
  obtain ⟨V, eV⟩ : ∃ V, V = (pktG m.key n (L.getD n ByteArray.empty)).val := ⟨_, rfl⟩
  rw [← eV] at H ⊢
  obtain ⟨A, eA⟩ : ∃ A, A = hidG (L.getD n ByteArray.empty) (seedG m.key n) := ⟨_, rfl⟩
  obtain ⟨B, eB⟩ : ∃ B, B = sealG n (L.getD n ByteArray.empty) := ⟨_, rfl⟩
  rw [← eA, ← eB] at H
  rw [← eA] at cC
  rw [← eB] at cS
  have HA := hid (at_newG w 43 [.int .i64 0, .string { data := #[] }, .string { data := #[] }])
  obtain ⟨a, c, rfl, -, -, -⟩ := row_shape h.row
  obtain ⟨b, o, rfl, hct⟩ := (row_txs h0.row).at hn
  have k1 : (w.alloc (.cells #[.int .i64 0, .string { data := #[] }, .string { data := #[] }] 43)).cell? ⟨g, 1, none⟩ = some (.slice (some ⟨b, o, none⟩) L.length c) := h0.hd.cell 1
  have k0 : (w.alloc (.cells #[.int .i64 0, .string { data := #[] }, .string { data := #[] }] 43)).cell? ⟨g, 0, none⟩ = some (.int .i64 m.key) := h0.hd.cell 0
  have kt := hct n hn
  have hgl := h.hd.lt
  have hbl : b < w.heap.size := by
    have := (row_new h.row b (by simp [ownB, Value.ownBlock])).2
    exact this
  generalize L.getD n ByteArray.empty = D at *
  generalize L.length = N at *
  have HH := hid (fun w1 (hb1 : Below (w.alloc (.cells #[.int .i64 0, .string { data := #[] }, .string { data := #[] }] 43)).heap.size (w.alloc (.cells #[.int .i64 0, .string { data := #[] }, .string { data := #[] }] 43)) w1) => (show (w1.cell? ⟨g, 1, none⟩ = some (.slice (some ⟨b, o, none⟩) N c) ∧ w1.cell? ⟨g, 0, none⟩ = some (.int .i64 m.key) ∧ w1.cell? ⟨b, o + n, none⟩ = some (.string D)) from ⟨keptCellQ (S := []) (Kept.of_below hb1) k1 (by simp), keptCellQ (S := []) (Kept.of_below hb1) k0 (by simp), keptCellQ (S := []) (Kept.of_below hb1) kt (by simp)⟩))
  clear eV eA eB h h0 hct
  have hne1 : g ≠ w.heap.size := by omega
  have hne2 : b ≠ w.heap.size := by omega
  go_enter Try.func24, Try.ntmps24
  go_upto_region 1 with fail
  go_region_held3 (fun w' => w'.cell? ⟨g, 1, none⟩ = some (.slice (some ⟨b, o, none⟩) N c) ∧ w'.cell? ⟨g, 0, none⟩ = some (.int .i64 m.key) ∧ w'.cell? ⟨b, o + n, none⟩ = some (.string D)) (first | exact ⟨k1, k0, kt⟩ | exact q1 | exact q2 | exact q3 _ _ _ | go_keep) (first
    | (go_at_call 31; refine (cC _).mono ?_; rintro e w1 ⟨rfl, hb1⟩; have hbA := bthen ((Below.refl _ (w.alloc (.cells #[.int .i64 0, .string { data := #[] }, .string { data := #[] }] 43))).drew) hb1; have q1 := HH.out w1 hbA)
    | (go_at_call 32; refine (cS _).mono ?_; rintro e w2 ⟨rfl, hb2⟩; have hbB := bthen hbA hb2; have q2 := HH.out w2 hbB; have q3 := fun x y z => set_three hne1 hne2 q2 x y z; have t5 := HA.out.kept (S := []) (Kept.of_below hbB) (by simp); have y0 : w2.cell? ⟨w.heap.size, 0, none⟩ = some (.int .i64 0) := t5.cell 0; have y1 : w2.cell? ⟨w.heap.size, 1, none⟩ = some (.string { data := #[] }) := t5.cell 1; have y2 : w2.cell? ⟨w.heap.size, 2, none⟩ = some (.string { data := #[] }) := t5.cell 2; have z0 := t5.free 0; have z1 := t5.free 1; have z2 := t5.free 2))
  have hZ : At (((w2.setCell ⟨w.heap.size, 0, none⟩ (.int .i64 ((n : Int).tmod 4096))).setCell ⟨w.heap.size, 1, none⟩ (.string A)).setCell ⟨w.heap.size, 2, none⟩ (.string B)) w.heap.size 43 [.int .i64 ((n : Int).tmod 4096), .string A, .string B] := ((t5.setCellG 0 (.int .i64 ((n : Int).tmod 4096))).setCellG 1 (.string A)).setCellG 2 (.string B)
  have hB : Below w.heap.size w (((w2.setCell ⟨w.heap.size, 0, none⟩ (.int .i64 ((n : Int).tmod 4096))).setCell ⟨w.heap.size, 1, none⟩ (.string A)).setCell ⟨w.heap.size, 2, none⟩ (.string B)) := (((bthen hb0 hbB).setCell (Nat.le_refl _) _).setCell (Nat.le_refl _) _).setCell (Nat.le_refl _) _
  have et : (n : Int).tmod 4096 = (n : Int) % 4096 := Int.tmod_eq_emod_of_nonneg (by omega)
  clear q1 q2 q3 k0 k1 kt y0 y1 y2 z0 z1 z2
  go_wp2_with fail
  (try simp only [Exit.inBlock, Exit.then])
  refine bodyPost_ret (results_cell_row (p := 4) (ty := 43) (by kernel_rfl) _ _ w.heap.size 43 _ (0, 0) _ rfl hZ Try.underlying43 rfl (by kernel_rfl)) rfl ?_
  exact ⟨by rw [← H.out, et], hB⟩
set_option maxRecDepth 100000 in
theorem rsend_large {w : World} {p : Addr} {d : ByteArray} (hd : 500 < d.size) (hz : d.size ≤ 9223372036854775807) :
    Calls Try.prog 9 #[.pointer (some p), .string d] w fun e w' => e = .returned (.tuple #[zeroPk, .int .i64 2]) ∧ Below w.heap.size w w' := by
  have hb0 : Below w.heap.size w (w.alloc (.cells #[.int .i64 0, .string { data := #[] }, .string { data := #[] }] 43)) := (Below.refl _ w).alloc (Nat.le_refl _) _
  go_enter Try.func9, Try.ntmps9
  go_wp2_with fail
  (try simp only [Exit.inBlock, Exit.then])
  refine bodyPost_ret (v := .tuple #[zeroPk, .int .i64 2]) ?_ rfl ⟨rfl, ?_⟩
  · rw [results_cell_tmp rfl]
    unfold zeroPk
    go_simp
  · exact hb0
def GvPost (w : World) (g : Nat) (v : Value) (L' : List ByteArray) (m' : SdM) (r : Value) : Ending → World → Prop := fun e w' => e = .returned r ∧ Kept (gvF g v) w w' ∧ ∃ v', PGv w' g v' L' m' ∧ Grown w.heap.size (ownB v) (ownB v')
set_option maxRecDepth 100000 in
set_option maxHeartbeats 1000000 in
theorem rsend_ok {w : World} {g : Nat} {v : Value} {L : List ByteArray} {m : SdM} {d : ByteArray} (h : PGv w g v L m) (hd : d.size ≤ 500) (hf : m.nxt < 16777216) :
    Calls Try.prog 9 #[.pointer (some ⟨g, 0, none⟩), .string d] w (GvPost w g v (L ++ [d]) (m.send d) (.tuple #[(pktG m.key m.nxt d).val, .int .i64 0])) := by
  have hb0 : Below w.heap.size w (w.alloc (.cells #[.int .i64 0, .string { data := #[] }, .string { data := #[] }] 43)) := (Below.refl _ w).alloc (Nat.le_refl _) _
  have h0 := h.kept (S := []) (Kept.of_below hb0) (by simp)
  have hA := at_newG w 43 [.int .i64 0, .string { data := #[] }, .string { data := #[] }]
  have hlt := h.lt
  have hlen := h.len
  obtain ⟨i0, hi, hz0, hz1, hz2⟩ := info_parts Try.infoTx
  obtain ⟨a, c, rfl, -, -, -⟩ := row_shape h.row
  have hgl : g < w.heap.size := hlt g List.mem_cons_self
  have hgn := h.ne
  have hs0 : (w.alloc (.cells #[.int .i64 0, .string { data := #[] }, .string { data := #[] }] 43)).heap.size = w.heap.size + 1 := World.size_alloc _ _
  have hF : (w.alloc (.cells #[.int .i64 0, .string { data := #[] }, .string { data := #[] }] 43)).cell? ⟨g, 1, none⟩ = some (.slice a L.length c) ∧ ∃ a' c' w3, (Builtin.append_ #[32, 32] 32 #[.slice a L.length c, .slice (some ⟨w.heap.size + 1, 0, none⟩) 1 1]).run Try.prog ((w.alloc (.cells #[.int .i64 0, .string { data := #[] }, .string { data := #[] }] 43)).alloc (.cells #[.string d] 9)) = .ok (.slice a' (L.length + 1) c') w3 ∧
        w3.cell? ⟨g, 1, none⟩ = some (.slice a L.length c) ∧ w3.frozen? ⟨g, 1, none⟩ = false ∧ Calls Try.prog 24 #[.pointer (some ⟨g, 0, none⟩), .int .i64 (L.length : Int)] (w3.setCell ⟨g, 1, none⟩ (.slice a' (L.length + 1) c')) (fun e w5 => e = .returned (pktG m.key m.nxt d).val ∧
          At w5 w.heap.size 43 [.int .i64 0, .string { data := #[] }, .string { data := #[] }] ∧ ∀ x y z, Kept (gvF g (.slice a L.length c)) w (((w5.setCell ⟨w.heap.size, 0, none⟩ x).setCell ⟨w.heap.size, 1, none⟩ y).setCell ⟨w.heap.size, 2, none⟩ z) ∧ ∃ v', PGv (((w5.setCell ⟨w.heap.size, 0, none⟩ x).setCell ⟨w.heap.size, 1, none⟩ y).setCell ⟨w.heap.size, 2, none⟩ z) g v' (L ++ [d]) (m.send d) ∧ Grown w.heap.size (ownB (.slice a L.length c)) (ownB v')) := by
    refine ⟨h0.hd.cell 1, ?_⟩
    have hk2 : Kept [] (w.alloc (.cells #[.int .i64 0, .string { data := #[] }, .string { data := #[] }] 43)) ((w.alloc (.cells #[.int .i64 0, .string { data := #[] }, .string { data := #[] }] 43)).alloc (.cells #[.string d] 9)) := (Kept.refl _ _).alloc _
    have h2 := h0.kept hk2 (by simp)
    have hA2 := hA.kept hk2 (by simp)
    have hX := at_newG (w.alloc (.cells #[.int .i64 0, .string { data := #[] }, .string { data := #[] }] 43)) 9 [.string d]
    rw [hs0] at hX
    obtain ⟨v', w3, hR, ho, hg, _, hbk⟩ := run_append_own_at (P := Try.prog) _ 0 32 32 9 i0 _ 1 16 Try.underlying32 hi hz0 hz1 hz2 rfl (by omega) (.slice a L.length c) L.length (L.map Value.string) h2.row ⟨w.heap.size + 1, 0, none⟩ 1 1 [.string d] rfl (fun j u hj => by
      rw [Addr.add_lit, Nat.zero_add, hX.cell]
      exact hj) (by simp [Value.oneCell']) (by unfold maxLen; omega) (by omega) (Nat.zero_le _)
    obtain ⟨a', c', rfl, -, -, -⟩ := row_shape ho
    have hG : ∀ x ∈ ownB (.slice a' (L.length + 1) c'), x ∈ ownB (.slice a L.length c) ∨ w.heap.size + 1 ≤ x := fun x hx => by
      have hx' : (Value.slice a' (L.length + 1) c').ownBlock = some x := by simpa [ownB] using hx
      rcases hbk with hb | hb
      · exact .inl (by simpa [ownB, ← hb] using hx')
      · rw [hb] at hx'
        have := Option.some.inj hx'
        rw [World.size_alloc, hs0] at this
        exact .inr (by omega)
    have hK := Kept.grownR hg
    have hH3 := h2.hd.kept hK hgn
    have hA3 := hA2.kept hK (fun hx => by have := hlt _ (List.mem_cons_of_mem _ hx); omega)
    have hk4 : Kept [g] w3 (w3.setCell ⟨g, 1, none⟩ (.slice a' (L.length + 1) c')) := (Kept.refl _ w3).setCell (by simp) _
    have hgn' : g ∉ ownB (.slice a' (L.length + 1) c') := fun hx => by
      rcases hG g hx with hx | hx
      · exact hgn hx
      · omega
    have hrow : (L ++ [d]).length = L.length + 1 := by simp
    have hP4 : PGv (w3.setCell ⟨g, 1, none⟩ (.slice a' (L.length + 1) c')) g (.slice a' (L.length + 1) c') (L ++ [d]) (m.send d) := by
      refine ⟨hH3.setCellG 1 _, ?_, hgn', h.ok.send hd hf, ?_, ?_, fun i hi' => ?_⟩
      · rw [hrow, List.map_append]
        exact row_kept ho hk4 (fun x hx e => hgn' (by simp at e; rw [← e]; exact hx))
      · show _ = m.beg + (m.wait ++ [d]).length
        rw [hrow, List.length_append, List.length_singleton, hlen]
        show m.beg + m.wait.length + 1 = _
        omega
      · show (L ++ [d]).drop m.beg = m.wait ++ [d]
        have hbl : m.beg ≤ L.length := by rw [hlen]; show m.beg ≤ m.beg + m.wait.length; omega
        rw [List.drop_append_of_le_length hbl, h.wait]
      · rw [hrow] at hi'
        rw [getD_snocG]
        split
        · exact hd
        · exact h.small i (by omega)
    refine ⟨a', c', w3, hR, hH3.cell 1, hH3.free 1, ?_⟩
    refine (rpacket_any hP4 L.length (by rw [hrow]; omega)).mono ?_
    rintro e w5 ⟨rfl, hb5⟩
    have hA5 := (hA3.kept hk4 (by simp; omega)).kept (S := []) (Kept.of_below hb5) (by simp)
    refine ⟨?_, hA5, fun x y z => ?_⟩
    · rw [getD_snocG, if_pos rfl, hlen]
      rfl
    have hk6 : Kept [w.heap.size] w5 (((w5.setCell ⟨w.heap.size, 0, none⟩ x).setCell ⟨w.heap.size, 1, none⟩ y).setCell ⟨w.heap.size, 2, none⟩ z) := (((Kept.refl _ w5).setCell (by simp) _).setCell (by simp) _).setCell (by simp) _
    have hwn : ∀ x ∈ gvF g (.slice a' (L.length + 1) c'), x ∉ [w.heap.size] := fun x hx e => by
      rw [List.mem_singleton] at e
      subst e
      rcases List.mem_cons.1 hx with e | hx
      · omega
      · rcases hG _ hx with hx | hx
        · have := hlt _ (List.mem_cons_of_mem _ hx); omega
        · omega
    refine ⟨?_, _, (hP4.kept (S := []) (Kept.of_below hb5) (by simp)).kept hk6 hwn, fun x hx => ?_⟩
    · have e1 : Kept (gvF g (.slice a L.length c)) w w3 := ((Kept.of_below hb0).trans (hk2.wider (by simp))).trans (hK.wider (fun x hx => List.mem_cons_of_mem _ hx))
      have e2 : Kept (gvF g (.slice a L.length c)) w w5 := (e1.trans (hk4.wider (fun x hx => by rw [List.mem_singleton] at hx; subst hx; exact List.mem_cons_self))).trans (Kept.of_below hb5)
      exact e2.newG hk6 (fun x hx => .inr (by rw [List.mem_singleton] at hx; omega))
    · rcases hG x hx with hx | hx
      · exact .inl hx
      · exact .inr (by omega)
  obtain ⟨x1, a', c', w3, hR, k1, kf, hPk⟩ := hF
  obtain ⟨R, eR⟩ : ∃ R, R = pktG m.key m.nxt d := ⟨_, rfl⟩
  rw [← eR] at hPk ⊢
  obtain ⟨rx, ry, rz⟩ := R
  dsimp only [PktM.val] at hPk ⊢
  obtain ⟨N, eN⟩ : ∃ N, N = L.length := ⟨_, rfl⟩
  rw [← eN] at x1 hR k1 hPk ⊢
  have hNb : ((N : Int) == 16777216) = false := by simp; omega
  have hN9 : N < 1000000000 := by omega
  have HPk := hid hPk
  have HEN := hid eN
  clear hPk h h0 hA hlt hlen hf eR eN
  go_enter Try.func9, Try.ntmps9
  go_wp2_with (first
    | (at_builtin; refine wpList_bi2 _ rfl .append _ _ 32 32 rfl _ _ rfl rfl (bi_append hR) ?_)
    | (go_at_call 24; refine HPk.out.mono ?_; rintro e w5 ⟨rfl, hA5, hE5⟩; have HE5 := hid hE5; clear hE5; have y0 : w5.cell? ⟨w.heap.size, 0, none⟩ = some (.int .i64 0) := hA5.cell 0; have y1 : w5.cell? ⟨w.heap.size, 1, none⟩ = some (.string { data := #[] }) := hA5.cell 1; have y2 : w5.cell? ⟨w.heap.size, 2, none⟩ = some (.string { data := #[] }) := hA5.cell 2; have z0 := hA5.free 0; have z1 := hA5.free 1; have z2 := hA5.free 2))
  (try simp only [Exit.inBlock, Exit.then])
  refine bodyPost_ret (v := .tuple #[.agg #[.int .i64 rx, .string ry, .string rz], .int .i64 0]) ?_ rfl ⟨rfl, HE5.out _ _ _⟩
  rw [results_cell_tmp rfl]
  clear HE5 HPk hR
  go_simp
end Go.Proofs.Ytbmdjfolfmgmmag
