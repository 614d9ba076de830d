import Derived.Test.YtmdfjhnibhmdkafDoorSt16
import Derived.BigRegion
import Derived.Deep.RegionLaw
namespace Go.Proofs.YtmdfjhnibhmdkafDoor
open Go.ChangeShapes Go.WideShapes Go.ChangeAt Go.RowKit
theorem joinM_ok {l : List ItemM} {size : Int} (h : (joinM l size).err = 0) : 0 ≤ size ∧ size ≤ 65535 ∧ l.all ItemM.ok = true ∧ ((itemsB l).length : Int) ≤ size ∧ joinM l size = ⟨strOfNums (padB (itemsB l) size.toNat), 0⟩ := by
  unfold joinM at h ⊢
  by_cases h1 : size < 0 ∨ 65535 < size
  · rw [if_pos h1] at h; cases h
  · rw [if_neg h1] at h ⊢
    by_cases h2 : l.all ItemM.ok = false
    · rw [if_pos h2] at h; cases h
    · rw [if_neg h2] at h ⊢
      by_cases h3 : size < ((itemsB l).length : Int)
      · rw [if_pos h3] at h; cases h
      · rw [if_neg h3]
        exact ⟨by omega, by omega, by simpa using h2, by omega, rfl⟩
theorem joinM_bad {l : List ItemM} {size : Int} (h : (joinM l size).err ≠ 0) : (joinM l size).text = ByteArray.empty := by
  unfold joinM at h ⊢
  by_cases h1 : size < 0 ∨ 65535 < size
  · rw [if_pos h1]
  · rw [if_neg h1] at h ⊢
    by_cases h2 : l.all ItemM.ok = false
    · rw [if_pos h2]
    · rw [if_neg h2] at h ⊢
      by_cases h3 : size < ((itemsB l).length : Int)
      · rw [if_pos h3]
      · rw [if_neg h3] at h
        exact absurd rfl h
theorem ok_at {l : List ItemM} (h : l.all ItemM.ok = true) {k : Nat} (hk : k < l.length) : (l.getD k .zero).ok = true := by
  have e : l.getD k .zero = l[k] := by simp [List.getD, hk]
  rw [e]
  exact List.all_eq_true.1 h _ (List.getElem_mem hk)
theorem cell_of_grown {wr w1 : World} {B : Nat} {v x y : Value} {L : List Int} {T1 : TypeId} {ob : Obj} (ho : Own wr B v L) (hg : ((wr.alloc (.cells #[x, y] T1)).alloc ob).grownBy w1 v.ownBlock) : w1.cell? ⟨wr.heap.size, 1, none⟩ = some y := by
  refine hg.cell (a := ⟨wr.heap.size, 1, none⟩) (v := y) ?_ (fun e => ?_)
  · rw [cell_of_row _ _ _ _ _ _ ((heap_alloc_old _ _ (by simp)).trans (heap_alloc_new wr _))]
    rfl
  · have := (ho.lt _ e.symm).2
    simp at this
set_option maxRecDepth 100000 in
set_option maxHeartbeats 4000000 in
theorem join_good (l : List ItemM) (n : Nat) (a : Option Addr) (nl c : Nat) (w : World) (hI : Itms w a l) (hnl : l.length = nl) (hm : nl ≤ maxLen) (hn : n ≤ 65535) (hall : l.all ItemM.ok = true) (hfit : (itemsB l).length ≤ n)
    (hcj : ∀ wz, Itms wz a l → Calls Tryd.prog 28 #[.slice a nl c, .int .i64 (n : Int)] wz fun e w' => e = .returned (.int .i64 0) ∧ Below wz.heap.size wz w') :
    Calls Tryd.prog 5 #[.slice a nl c, .int .i64 (n : Int)] w fun e w' => e = .returned (.tuple #[.string (strOfNums (padB (itemsB l) n)), .int .i64 0]) ∧ Below w.heap.size w w' := by
  have HI := hid hI
  have HNL := hid hnl
  have HAL := hid hall
  have hm' : nl ≤ 9223372036854775807 := by unfold maxLen at hm; omega
  obtain ⟨i0, hi, hz0, hz1, hz2⟩ := info_parts Tryd.info5
  clear hnl hm hall
  go_enter Tryd.func5, Tryd.ntmps5
  go_wp2_with (first
    | (go_at_call 28; refine (hcj _ hI).mono ?_; rintro e w1 ⟨rfl, hb1⟩)
    | (at_make; refine wpList_make_own _ rfl _ _ 68 rfl w.heap.size 5 i0 (.int .u8 0) 1 Tryd.underlying68 hi hz0 hz1 .i64 .i64 _ n rfl rfl rfl (by rw [hz2]; omega) (by unfold maxLen; omega) hb1.size ?_; intro w2 ho2 hg2; have hb2 : Below w.heap.size w w2 := hb1.grown hg2 hb1.size (by intro k hk; cases hk)))
  have ho0 : Own w2 w.heap.size (.slice (some ⟨w1.heap.size, 0, none⟩) 0 n) (itemsB (l.take 0)) := ho2
  clear ho2 hg2 hcj
  go_loopw [7, 21] (fun v i wr => ∃ k : Nat, k ≤ nl ∧ i = .int .i64 k ∧ Own wr w.heap.size v (itemsB (l.take k)) ∧ Below w.heap.size w wr) (fun _ i _ => nl - (intOf i).toNat)
  case atStart => exact ⟨0, by omega, rfl, ho0, hb2⟩
  case round =>
    clear ho0 hb2 hb1
    obtain ⟨k, hk, rfl, ho, hb⟩ := hrel
    by_cases hlt : k < nl
    · have hkl : k < l.length := by rw [HNL.out]; exact hlt
      obtain ⟨b, o, rfl, hC⟩ := HI.out.at (i := k) hkl
      obtain ⟨q0, q1⟩ := hC k hkl
      have HTK := hid (itemsB_take hkl)
      have htl := itemsB_take_le l k
      have htl2 := itemsB_take_le l (k + 1)
      rw [itemsB_take hkl, List.length_append, List.length_append, bytesI_length] at htl2
      have hok := ok_at HAL.out hkl
      obtain ⟨I, eI⟩ : ∃ I, I = l.getD k .zero := ⟨_, rfl⟩
      rw [← eI] at q0 q1 htl2 HTK hok
      have q0 := cellOldJ hb q0
      have q1 := cellOldJ hb q1
      have hok' := of_decide_eq_true hok
      have hz : I.data.size ≤ 1500 := hok'.2.2
      have hc1 : 1 ≤ I.ch := hok'.1
      have hc2 : I.ch ≤ 32 := hok'.2.1
      have HL1 : Hid ((itemsB (l.take k)).length < 70368744177664) := by show _ < _; omega
      have HL2 : Hid (((itemsB (l.take k)) ++ [I.ch, (I.data.size : Int) / 256, (I.data.size : Int) % 256]).length + I.data.size ≤ 70368744177664) := by
        show _ ≤ _
        rw [List.length_append]
        have e3 : I.head.length = 3 := rfl
        have e4 : ([I.ch, (I.data.size : Int) / 256, (I.data.size : Int) % 256] : List Int).length = 3 := rfl
        omega
      have HHD := hid (show I.head = [I.ch, (I.data.size : Int) / 256, (I.data.size : Int) % 256] by unfold ItemM.head; rw [Int.natCast_ediv, Int.natCast_emod]; rfl)
      have hoA := fun (ob : Obj) => (show Own (wr.alloc ob) w.heap.size _ _ from World.ownsRow.alloc ho ob)
      have hbA := fun (ob : Obj) => hb.alloc hb.size ob
      clear htl htl2 eI hok hok' hC hkl
      go_wp2_with (first
        | (at_builtin; refine wpList_push3g w.heap.size w _ _ _ (hoA _) rfl _ _ rfl rfl _ (by simp) rfl HL1.out (hbA _) (by have := hb.size; simp; omega) ?_; intro v1 w1 ho1 hb1 hg1; have q1b := cell_of_grown ho hg1)
        | (at_builtin; refine wpList_pushS w.heap.size w I.data ho1 rfl _ _ rfl rfl rfl HL2.out hb1 hb1.size ?_; intro v2 w2 ho2 hb2))
      go_roundw
      case rel => exact ⟨k + 1, by omega, by go_num, by rw [HTK.out, HHD.out]; exact ho2, hb2⟩
      case measure => simp [intOf]; omega
    · have e : k = nl := by omega
      subst e
      have htk : l.take k = l := List.take_of_length_le (by rw [HNL.out]; exact Nat.le_refl _)
      rw [htk] at ho
      clear htk HI HAL HNL
      obtain ⟨L, eL⟩ : ∃ L, L = itemsB l := ⟨_, rfl⟩
      rw [← eL] at ho hfit
      have HL := hid eL
      clear eL
      obtain ⟨a6, c6, rfl, -, -, -⟩ := Own.shape ho
      by_cases hl2 : L.length < n
      · have y2 : decide ((0 : Int) < (n : Int) - (L.length : Int)) = true := decide_eq_true (by omega)
        have HLE : Hid (L.length < 70368744177664) := by show _ < _; omega
        have HLZ : Hid ((L ++ [63]).length + (n - L.length - 1) ≤ 70368744177664) := by show _ ≤ _; simp; omega
        have hpd : padB (itemsB l) n = L ++ [63] ++ List.replicate (n - L.length - 1) 0 := by rw [← HL.out]; unfold padB; rw [if_pos hl2]
        obtain ⟨M, eM⟩ : ∃ M, M = L ++ [63] ++ List.replicate (n - L.length - 1) 0 := ⟨_, rfl⟩
        rw [← eM] at hpd
        have HPD := hid hpd
        have HM := hid eM
        clear hpd eM
        have HNZ := hid (show (n : Int) - (L.length : Int) - 1 = ((n - L.length - 1 : Nat) : Int) by omega)
        go_wp2_with (first
          | (at_builtin; refine wpList_push w.heap.size w 63 ho rfl _ _ rfl rfl rfl HLE.out hb hb.size ?_; intro v1 w1 ho1 hb1)
          | (at_builtin; refine wpList_pushZ w.heap.size w (n - L.length - 1) ho1 rfl _ _ rfl rfl _ rfl HNZ.out HLZ.out hb1 hb1.size ?_; intro v2 w2 ho2 hb2; rw [← HM.out] at ho2; obtain ⟨a7, c7, rfl, -, -, -⟩ := Own.shape ho2; have hcv := conv_rd ho2.rd c7))
        go_ret2
        rw [HPD.out]
        exact ⟨rfl, hb2⟩
      · have y2 : decide ((0 : Int) < (n : Int) - (L.length : Int)) = false := decide_eq_false (by omega)
        have HPD := hid (show padB (itemsB l) n = L by rw [← HL.out]; unfold padB; rw [if_neg hl2])
        have hcv := conv_rd ho.rd c6
        go_wp2_with fail
        go_ret2
        rw [HPD.out]
        exact ⟨rfl, hb⟩
theorem join_bad (l : List ItemM) (size er : Int) (a : Option Addr) (nl c : Nat) (w : World) (her : (er != 0) = true) (hcj : ∀ wz, Itms wz a l → Calls Tryd.prog 28 #[.slice a nl c, .int .i64 size] wz fun e w' => e = .returned (.int .i64 er) ∧ Below wz.heap.size wz w') (hI : Itms w a l) :
    Calls Tryd.prog 5 #[.slice a nl c, .int .i64 size] w fun e w' => e = .returned (.tuple #[.string ByteArray.empty, .int .i64 er]) ∧ Below w.heap.size w w' := by
  go_enter Tryd.func5, Tryd.ntmps5
  go_wp2_with (go_at_call 28; refine (hcj _ hI).mono ?_; rintro e w1 ⟨rfl, hb1⟩)
  go_ret2
  exact ⟨rfl, hb1⟩
theorem join_any (l : List ItemM) (size : Int) (a : Option Addr) (nl c : Nat) (w : World) (hI : Itms w a l) (hnl : l.length = nl) (hm : nl ≤ maxLen) (hroom : nl ≤ 6000000000000) :
    Calls Tryd.prog 5 #[.slice a nl c, .int .i64 size] w fun e w' => e = .returned (.tuple #[.string (joinM l size).text, .int .i64 (joinM l size).err]) ∧ Below w.heap.size w w' := by
  have hcj := fun wz hz => cjoin_any l size a nl c wz hz hnl hm hroom
  by_cases he : (joinM l size).err = 0
  · obtain ⟨h1, h2, h3, h4, h5⟩ := joinM_ok he
    obtain ⟨n, rfl⟩ : ∃ n : Nat, size = (n : Int) := ⟨size.toNat, by omega⟩
    rw [he] at hcj
    rw [h5]
    exact join_good l n a nl c w hI hnl hm (by omega) h3 (by omega) hcj
  · have h := join_bad l size (joinM l size).err a nl c w (by simpa using he) hcj hI
    rw [joinM_bad he]
    exact h
end Go.Proofs.YtmdfjhnibhmdkafDoor
namespace Go.Proofs.YtmdfjhnibhmdkafDoor
open Go.ChangeShapes Go.WideShapes Go.ChangeAt Go.RowKit
theorem Tryd.infoIt : (Tryd.prog.info? 31).map (fun i => (i.zero, i.size, i.bytes)) = some (some (.agg #[.int .i64 0, .string { data := #[] }]), 2, 24) := by kernel_rfl
def cellsI (l : List ItemM) : List Value := l.flatMap fun t => [.int .i64 t.ch, .string t.data]
theorem cellsI_snoc (l : List ItemM) (t : ItemM) : cellsI (l ++ [t]) = cellsI l ++ [.int .i64 t.ch, .string t.data] := by
  unfold cellsI
  rw [List.flatMap_append, List.flatMap_singleton]
def OwnIt (w : World) (B : Nat) (v : Value) (l : List ItemM) : Prop := w.ownsRow B 31 2 v l.length (cellsI l)
theorem OwnIt.nil (w : World) (B : Nat) : OwnIt w B (.slice none 0 0) [] := World.ownsRow_nil _ _ _ _
theorem OwnIt.drew {w : World} {B : Nat} {v : Value} {l : List ItemM} (h : OwnIt w B v l) : OwnIt w.drew B v l := h
theorem OwnIt.blocks {w : World} {B : Nat} {v : Value} {l : List ItemM} (h : OwnIt w B v l) : ∀ k, v.ownBlock = some k → B ≤ k := fun k hk => (h.lt k hk).1
theorem OwnIt.below {w w' : World} {B : Nat} {v : Value} {l : List ItemM} (h : OwnIt w B v l) (hb : Below w.heap.size w w') : OwnIt w' B v l := by
  refine ⟨h.1, ?_⟩
  rcases h.2 with h' | ⟨g, cap, cur, h1, h2, h3, h4⟩
  · exact .inl h'
  · have hlt : g < w.heap.size := (Array.getElem?_eq_some_iff.1 h3).1
    exact .inr ⟨g, cap, cur, h1, h2, (hb.block g hlt).trans h3, h4⟩
theorem OwnIt.shape {w : World} {B : Nat} {v : Value} {l : List ItemM} (h : OwnIt w B v l) : ∃ a c, v = .slice a l.length c ∧ l.length ≤ c ∧ c ≤ maxLen := by
  rcases h.2 with ⟨rfl, h0⟩ | ⟨g, cap, cur, rfl, _, _, h1, h2, _⟩
  · exact ⟨none, 0, by rw [h0], by omega, by unfold maxLen; omega⟩
  · exact ⟨_, cap, rfl, h1, h2⟩
/-- The byte at a place of a text. -/
def byteN (s : ByteArray) (j : Nat) : Nat := if h : j < s.size then s[j].toNat else 0
theorem byteN_eq (s : ByteArray) (j : Nat) (h : j < s.size) : byteN s j = s[j].toNat := by simp [byteN, h]
theorem byteN_lt (s : ByteArray) (j : Nat) : byteN s j < 256 := by
  unfold byteN
  split
  · exact UInt8.toNat_lt _
  · omega
def partN (s : ByteArray) (p : Nat) : Nat := 256 * byteN s (p + 1) + byteN s (p + 2)
def partI (s : ByteArray) (p : Nat) : ItemM := ⟨(byteN s p : Int), s.extract (p + 3) (p + 3 + partN s p)⟩
/-- What a text is taken apart to, from a place on. -/
def parseM (s : ByteArray) : Nat → Nat → Option (List ItemM)
  | 0, _ => some []
  | f + 1, p => if p < s.size ∧ byteN s p ≠ 63 then (if s.size < p + 3 then none else if s.size < p + 3 + partN s p then none else (parseM s f (p + 3 + partN s p)).map (partI s p :: ·)) else some []
def splitM (s : ByteArray) : Option (List ItemM) := if 65535 < s.size then none else match parseM s (s.size + 1) 0 with
  | none => none
  | some l => if (joinM l (s.size : Int)).err = 0 ∧ (joinM l (s.size : Int)).text = s then some l else none
end Go.Proofs.YtmdfjhnibhmdkafDoor
namespace Go.Proofs.YtmdfjhnibhmdkafDoor
open Go.ChangeShapes Go.WideShapes Go.ChangeAt Go.RowKit
theorem parse_stop {s : ByteArray} {f p : Nat} (hf : 0 < f) (h : ¬ (p < s.size ∧ byteN s p ≠ 63)) : parseM s f p = some [] := by
  obtain ⟨g, rfl⟩ : ∃ g, f = g + 1 := ⟨f - 1, by omega⟩
  unfold parseM
  rw [if_neg h]
theorem parse_short {s : ByteArray} {f p : Nat} (hf : 0 < f) (h : p < s.size ∧ byteN s p ≠ 63) (h2 : s.size < p + 3 ∨ s.size < p + 3 + partN s p) : parseM s f p = none := by
  obtain ⟨g, rfl⟩ : ∃ g, f = g + 1 := ⟨f - 1, by omega⟩
  unfold parseM
  rw [if_pos h]
  by_cases h3 : s.size < p + 3
  · rw [if_pos h3]
  · rw [if_neg h3, if_pos (by omega)]
theorem parse_step {s : ByteArray} {f p : Nat} (h : p < s.size ∧ byteN s p ≠ 63) (h2 : p + 3 + partN s p ≤ s.size) : parseM s (f + 1) p = (parseM s f (p + 3 + partN s p)).map (partI s p :: ·) := by
  show (if p < s.size ∧ byteN s p ≠ 63 then _ else _) = _
  rw [if_pos h, if_neg (by omega), if_neg (by omega)]
end Go.Proofs.YtmdfjhnibhmdkafDoor
namespace Go.Proofs.YtmdfjhnibhmdkafDoor
open Go.ChangeShapes Go.WideShapes Go.ChangeAt Go.RowKit
def Byt (P : List Int) : Prop := ∀ x ∈ P, 0 ≤ x ∧ x ≤ 255
theorem byt_bytesI (s : ByteArray) : Byt (bytesI s) := fun x hx => by
  unfold bytesI at hx
  obtain ⟨b, _, rfl⟩ := List.mem_map.1 hx
  have := UInt8.toNat_lt b
  exact ⟨by omega, by omega⟩
theorem byt_head {t : ItemM} (h : t.ok = true) : Byt t.head := fun x hx => by
  have ho : 1 ≤ t.ch ∧ t.ch ≤ 32 ∧ t.data.size ≤ 1500 := of_decide_eq_true h
  unfold ItemM.head at hx
  simp only [List.mem_cons, List.not_mem_nil, or_false] at hx
  rcases hx with rfl | rfl | rfl <;> omega
theorem byt_items {l : List ItemM} (h : l.all ItemM.ok = true) : Byt (itemsB l) := fun x hx => by
  unfold itemsB at hx
  obtain ⟨t, ht, hx⟩ := List.mem_flatMap.1 hx
  have hok := List.all_eq_true.1 h t ht
  unfold ItemM.bytes at hx
  rcases List.mem_append.1 hx with hx | hx
  · exact byt_head hok x hx
  · exact byt_bytesI t.data x hx
theorem byt_pad {L : List Int} (h : Byt L) (n : Nat) : Byt (padB L n) := fun x hx => by
  unfold padB at hx
  split at hx
  · rcases List.mem_append.1 hx with hx | hx
    · rcases List.mem_append.1 hx with hx | hx
      · exact h x hx
      · obtain rfl : x = 63 := by simpa using hx
        omega
    · obtain rfl := List.eq_of_mem_replicate hx
      omega
  · exact h x hx
theorem byteN_str {P : List Int} (h : Byt P) {j : Nat} (hj : j < P.length) : (byteN (strOfNums P) j : Int) = P.getD j 0 := by
  have hs : j < (strOfNums P).size := by rw [strOfNums_size]; exact hj
  rw [byteN_eq _ _ hs]
  have e : (strOfNums P)[j] = UInt8.ofNat (P[j]).toNat := by
    show ((P.map fun n => UInt8.ofNat n.toNat).toArray)[j]'(by simpa using hj) = _
    rw [List.getElem_toArray, List.getElem_map]
  have hb := h P[j] (List.getElem_mem hj)
  rw [e]
  have e2 : P.getD j 0 = P[j] := by simp [List.getD, hj]
  rw [e2, UInt8.toNat_ofNat']
  omega
theorem str_bytes (s : ByteArray) : strOfNums (bytesI s) = s := by
  refine WideShapes.bytes_inj ?_
  rw [strOfNums_data]
  unfold bytesI
  rw [List.map_map]
  conv => rhs; rw [← List.map_id s.data.toList]
  refine List.map_congr_left fun b _ => ?_
  simp
end Go.Proofs.YtmdfjhnibhmdkafDoor
