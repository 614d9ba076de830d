import Derived.Test.YtbmdjfolfmgmmagK09
import Derived.Maps.AppendAt
import Derived.Laws.CopyOwn
import Derived.Deep.RegionLaw
import Derived.Lib.Overlaps
import Derived.Laws.Externs
import Derived.Deep.Cut
import Derived.BigRegion
import Derived.Test.YtbmdjfolfmgmmagK06
import Derived.Laws.ResultCell
namespace Go.Proofs.Ytbmdjfolfmgmmag
open Go.ChangeShapes Go.WideShapes Go.ChangeAt Go.RowKit
theorem keptRow {S : List Nat} {w w' : World} {B n k : Nat} {T : TypeId} {v : Value} {xs : List Value} (h : w.ownsRow B T k v n xs) (hk : Kept S w w') (hs : ∀ g, v.ownBlock = some g → g ∉ S) : w'.ownsRow B T k v n xs := by
  refine ⟨h.1, ?_⟩
  rcases h.2 with h' | ⟨g, cap, cur, h1, h2, h3, h4⟩
  · exact .inl h'
  · have hlt : g < w.heap.size := (Array.getElem?_eq_some_iff.1 h3).1
    exact .inr ⟨g, cap, cur, h1, h2, (hk.block g hlt (hs g (by rw [h1]; rfl))).trans h3, h4⟩
theorem Kept.grownR {w w' : World} {row : Option Nat} (h : w.grownBy w' row) : Kept row.toList w w' := ⟨h.os, h.tape, h.output, h.size, fun k hk hn => h.block k hk (fun e => hn (by rw [← e]; simp))⟩
theorem wpList_pushR {W : World} {ops : Array Oper} {rest : List Oper} {o : Oper} {a : Act} {Q : Exit → Act → World → Prop} {v z : Value} {xs news : List Value} {n size bytes : Nat} {t e : TypeId} {i0 : TypeInfo} (B g : Nat) (ht : Try.prog.underlying t = some (.slice e)) (hi : Try.prog.info? e = some i0) (hz : i0.zero = some z) (hsz : i0.size = size) (hby : i0.bytes = bytes) (hzs : z.cells.size = size) (h0 : 0 < size)
    (hown : W.ownsRow B e size v n xs) (hgd : o.guard = none) (s x : Operand) (ho : o.op = .call { callee := .builtin .append, args := #[s, x], argTypes := #[t, t] }) (hs : a.eval s = v) (hx : a.eval x = .slice (some ⟨g, 0, none⟩) 1 1) (hl : news.length = 1 * size) (hc : ∀ (k : Nat) u, news[k]? = some u → W.cell? ⟨g, k, none⟩ = some u) (h1 : ∀ u ∈ news, u.oneCell' = true) (h63 : n + 1 ≤ maxLen) (hlen : (n + 1) * bytes ≤ 140737488355328) (hB : B ≤ W.heap.size)
    (h : ∀ v' w', w'.ownsRow B e size v' (n + 1) (xs ++ news) → W.grownBy w' v.ownBlock → (v'.ownBlock = v.ownBlock ∨ v'.ownBlock = some W.heap.size) → wpList Try.prog ops Q rest (a.put o.dst v') w') : wpList Try.prog ops Q (o :: rest) a W :=
  wpList_append_own_at W hgd s x t ho B e i0 z size bytes ht hi hz hsz hby hzs h0 v n xs hs hown ⟨g, 0, none⟩ 1 1 news hx hl (fun j u hj => by rw [Addr.add_lit, Nat.zero_add]; exact hc j u hj) h1 h63 hlen hB (fun v' w' h2 h3 _ h4 => h v' w' h2 h3 h4)
theorem row_shape {w : World} {B n k : Nat} {T : TypeId} {v : Value} {xs : List Value} (h : w.ownsRow B T k v n xs) : ∃ a c, v = .slice a n c ∧ n ≤ c ∧ c ≤ maxLen ∧ (∀ x, a = some x → ∃ g, x = ⟨g, 0, none⟩ ∧ v.ownBlock = some g) := by
  rcases h.2 with ⟨rfl, rfl⟩ | ⟨g, cap, cur, rfl, _, _, h1, h2, _⟩
  · exact ⟨none, 0, rfl, Nat.le_refl _, by unfold maxLen; omega, fun x e => (by cases e)⟩
  · exact ⟨_, cap, rfl, h1, h2, fun x e => ⟨g, (Option.some.inj e).symm, rfl⟩⟩
theorem row_txs {w : World} {B n c : Nat} {T : TypeId} {a : Option Addr} {l : List ByteArray} (h : w.ownsRow B T 1 (.slice a n c) l.length (l.map Value.string)) : Txs w a l := by
  intro hne
  rcases h.2 with ⟨h', h0⟩ | ⟨g, cap, cur, h', _, hg, _, _, _, ht⟩
  · exact absurd (List.length_eq_zero_iff.1 h0) hne
  · simp only [Value.slice.injEq] at h'
    obtain ⟨rfl, _, _⟩ := h'
    refine ⟨g, 0, rfl, fun i hi => ?_⟩
    have hat : cur[i]? = (l.map Value.string)[i]? := by
      rw [← ht, List.getElem?_take_of_lt (by omega)]
      simp
    rw [Nat.zero_add, cell_of_row _ _ _ _ _ _ hg, hat]
    simp [List.getD, hi]
theorem Try.infoTx : (Try.prog.info? 9).map (fun i => (i.zero, i.size, i.bytes)) = some (some (.string { data := #[] }), 1, 16) := by kernel_rfl
end Go.Proofs.Ytbmdjfolfmgmmag
namespace Go.Proofs.Ytbmdjfolfmgmmag
open Go.ChangeShapes Go.WideShapes Go.ChangeAt Go.RowKit
/-- A block's row. -/
def At (w : World) (b : Nat) (T : TypeId) (cur : List Value) : Prop := w.heap[b]? = some (.cells cur.toArray T (0, 0))
theorem At.lt {w : World} {b : Nat} {T : TypeId} {cur : List Value} (h : At w b T cur) : b < w.heap.size := (Array.getElem?_eq_some_iff.1 h).1
theorem At.set {w : World} {b : Nat} {T : TypeId} {cur new : List Value} (h : At w b T cur) : At (w.setRow b new.toArray) b T new := setRow_heap w b _ _ T _ h
theorem At.other {w : World} {b g : Nat} {T : TypeId} {cur : List Value} (h : At w b T cur) (hne : b ≠ g) (x : Array Value) : At (w.setRow g x) b T cur := (setRow_other w g b x hne).trans h
theorem At.kept {w w' : World} {b : Nat} {T : TypeId} {cur : List Value} {S : List Nat} (h : At w b T cur) (hk : Kept S w w') (hn : b ∉ S) : At w' b T cur := (hk.block b h.lt hn).trans h
theorem At.cell {w : World} {b : Nat} {T : TypeId} {cur : List Value} (h : At w b T cur) (j : Nat) : w.cell? ⟨b, j, none⟩ = cur[j]? := by
  rw [cell_of_row _ _ _ _ _ _ h]
  simp
theorem At.free {w : World} {b : Nat} {T : TypeId} {cur : List Value} (h : At w b T cur) (j : Nat) : w.frozen? ⟨b, j, none⟩ = false := frozen_of_row w b j _ T h
theorem kept_setRow (w : World) (b : Nat) (x : Array Value) : Kept [b] w (w.setRow b x) := ⟨rfl, rfl, rfl, by simp [World.setRow], fun k _ hn => setRow_other w b k x (by simpa using hn)⟩
theorem At.row {w : World} {g n c k : Nat} {T : TypeId} {cur xs : List Value} (h : At w g T cur) (hl : xs.length = n * k) (hn : n ≤ c) (hc : c ≤ maxLen) (hs : cur.length = c * k) (ht : cur.take (n * k) = xs) : w.ownsRow 0 T k (.slice (some ⟨g, 0, none⟩) n c) n xs :=
  ⟨hl, .inr ⟨g, c, cur.toArray, rfl, Nat.zero_le _, h, hn, hc, by simpa using hs, by simpa using ht⟩⟩
theorem row_at {w : World} {B g n c k : Nat} {T : TypeId} {xs : List Value} {m : Nat} (h : w.ownsRow B T k (.slice (some ⟨g, 0, none⟩) m c) n xs) : ∃ cur, At w g T cur ∧ m = n ∧ n ≤ c ∧ c ≤ maxLen ∧ cur.length = c * k ∧ cur.take (n * k) = xs ∧ xs.length = n * k := by
  rcases h.2 with ⟨h', _⟩ | ⟨g', cap, cur, h', _, hg, h1, h2, h3, h4⟩
  · simp at h'
  · simp only [Value.slice.injEq, Option.some.injEq, Addr.mk.injEq] at h'
    obtain ⟨⟨rfl, -, -⟩, rfl, rfl⟩ := h'
    refine ⟨cur.toList, ?_, rfl, h1, h2, by simpa using h3, h4, h.1⟩
    unfold At
    rw [Array.toArray_toList]
    exact hg
theorem run_clearK {P : Program} (w : World) (t e ty tb : TypeId) (i : TypeInfo) (z : Value) (ht : P.underlying t = some (.slice e)) (hi : P.info? e = some i) (hz : i.zero = some z) (g o n c : Nat) (cur : List Value) (hg : At w g tb cur) (hn : 0 < n)
    (hfit : o + n * z.cells.size ≤ cur.length) (h1 : ∀ v ∈ (Builtin.zeroCells z.cells n).toList, v.oneCell' = true) :
    (Builtin.clear_ #[t] ty #[.slice (some ⟨g, o, none⟩) n c]).run P w = .ok (.tuple #[]) (w.setRow g (splice cur o (Builtin.zeroCells z.cells n).toList).toArray) := by
  have hl : (Builtin.zeroCells z.cells n).toList.length = n * z.cells.size := by rw [Array.length_toList, size_zeroCells]
  have hst := run_storeCells_at P g o tb (Builtin.zeroCells z.cells n).toList 0 cur.toArray w hg (by rw [hl]; simpa using hfit) h1
  simp only [Nat.add_zero] at hst
  obtain ⟨m, rfl⟩ : ∃ m, n = m + 1 := ⟨n - 1, by omega⟩
  simp [Builtin.clear_, run_underlying ht, zeroValue, typeInfo, hi, hz, hst, splice]
theorem run_clear0 {P : Program} (w : World) (t e ty : TypeId) (ht : P.underlying t = some (.slice e)) (a : Option Addr) (c : Nat) : (Builtin.clear_ #[t] ty #[.slice a 0 c]).run P w = .ok (.tuple #[]) w := by
  cases a <;> simp [Builtin.clear_, run_underlying ht]
theorem bi_append {P : Program} {w w' : World} {ts : Array TypeId} {ty : TypeId} {args : Array Value} {v : Value} (h : (Builtin.append_ ts ty args).run P w = .ok v w') : ∀ cs, (builtin .append ts ty cs args).run P w = .ok (.value v) w' := fun cs => by simp [builtin, h]
theorem zero_mem {z : Array Value} {n : Nat} {v : Value} (h : v ∈ (Builtin.zeroCells z n).toList) : v ∈ z := by
  simp only [Builtin.zeroCells, Array.toList_map, List.mem_map] at h
  obtain ⟨i, hi, rfl⟩ := h
  have h0 : i < n * z.size := by simpa using hi
  have h1 : 0 < z.size := by
    rcases Nat.eq_zero_or_pos z.size with e | e
    · rw [e] at h0; omega
    · exact e
  have h2 := Nat.mod_lt i h1
  rw [getElem!_pos z _ h2]
  exact Array.getElem_mem h2
theorem wpList_bi2 {P : Program} (w : World) {ops : Array Oper} {rest : List Oper} {o : Oper} {a : Act} {Q : Exit → Act → World → Prop} (hgd : o.guard = none) (bi : Builtin) (s x : Operand) (t tn : TypeId)
    (ho : o.op = .call { callee := .builtin bi, args := #[s, x], argTypes := #[t, tn] }) (vs vx : Value) (hs : a.eval s = vs) (hx : a.eval x = vx) {v' : Value} {w' : World}
    (hr : ∀ cs, (builtin bi #[t, tn] o.type cs #[vs, vx]).run P w = .ok (.value v') w') (h : wpList P ops Q rest (a.put o.dst v') w') : wpList P ops Q (o :: rest) a w := by
  refine wpList_plain hgd fun K hK => ?_
  unfold Oper.wp execOp
  simp only [ho, resolve, invoke, Sem.run_bind, Sem.run_pure, Result.andThen_ok, List.map_toArray, List.map_cons, List.map_nil, hs, hx, hr]
  exact hK _ _ h
end Go.Proofs.Ytbmdjfolfmgmmag
namespace Go.Proofs.Ytbmdjfolfmgmmag
open Go.ChangeShapes Go.WideShapes Go.ChangeAt Go.RowKit
theorem bitsOf_any (s : ByteArray) (w : World) (hm : s.size ≤ 503) :
    Calls Try.prog 37 #[.string s] w fun e w' => ∃ v, e = .returned v ∧ Own w' w.heap.size v (unpackTo s (8 * s.size)) ∧ Below w.heap.size w w' := by
  have h1 : unpackErr s (8 * (s.size : Int)) = 0 := by unfold unpackErr; rw [if_neg (by omega), if_neg (by omega)]
  have h2 : unpackL s (8 * (s.size : Int)) = unpackTo s (8 * s.size) := by
    unfold unpackL
    rw [if_pos h1]
    congr 1
  have hc := fun wz => unpack_any s (8 * (s.size : Int)) wz (by omega)
  rw [h1, h2] at hc
  clear h1 h2
  obtain ⟨L, eL⟩ : ∃ L, L = unpackTo s (8 * s.size) := ⟨_, rfl⟩
  rw [← eL] at hc ⊢
  clear eL
  go_enter Try.func37, Try.ntmps37
  go_wp2_with (go_at_call 51; refine (hc _).mono ?_; rintro e w' ⟨v, rfl, hO, hb⟩)
  go_ret
  exact ⟨v, rfl, hO, hb⟩
theorem and_low31 (n : Int) : bits .and .i64 n 2147483647 = n % 2147483648 := by
  have h1 : (BitVec.ofInt 64 2147483647).toNat = 2 ^ 31 - 1 := by decide
  have key : (BitVec.ofInt 64 n &&& BitVec.ofInt 64 2147483647).toNat = (n % ((2 ^ 64 : Nat) : Int)).toNat % 2 ^ 31 := by
    rw [BitVec.toNat_and, BitVec.toNat_ofInt, h1, Nat.and_two_pow_sub_one_eq_mod]
  show IntKind.i64.wrap ((BitVec.ofInt 64 n &&& BitVec.ofInt 64 2147483647).toNat : Nat) = n % 2147483648
  rw [key, IntKind.wrap_i64]
  omega
theorem seedOf_any (k : Int) (c : Nat) (w : World) (hk : 0 ≤ k ∧ k < 2147483648) (hc : c ≤ 33554432) :
    Calls Try.prog 38 #[.int .i64 k, .int .i64 (c : Int)] w fun e w' => e = .returned (.int .i64 (seedG k c : Nat)) ∧ w = w' := by
  have H := hid (show bits .and .i64 (k + 48271 * (c : Int) + 12345) 2147483647 = (seedG k c : Nat) by rw [and_low31, seedG_eq])
  go_enter Try.func38, Try.ntmps38
  go_wp2
  go_ret
  exact ⟨by rw [H.out]; rfl, rfl⟩
theorem gcover_any (d : ByteArray) (k : Int) (c : Nat) (w : World) (hd : d.size ≤ 500) (hk : 0 ≤ k ∧ k < 2147483648) (hc : c ≤ 33554432) :
    Calls Try.prog 27 #[.string d, .int .i64 k, .int .i64 (c : Int)] w fun e w' => e = .returned (.string (hidG d (seedG k c))) ∧ Below w.heap.size w w' := by
  have cB := fun wz => bitsOf_any d wz (by omega)
  have cS := fun wz => seedOf_any k c wz hk hc
  have hs := seedG_lt k c
  have H := hid (show strOfNums (packL (addTo (unpackTo d (8 * d.size)) (noiseTo (seedG k c) (8 * d.size)) (8 * d.size))) = hidG d (seedG k c) from rfl)
  have hl : (unpackTo d (8 * d.size)).length = 8 * d.size := unpackTo_length _ _
  have hbt := unpack_bitsG d (8 * d.size)
  obtain ⟨R, eR⟩ : ∃ R, R = hidG d (seedG k c) := ⟨_, rfl⟩
  obtain ⟨S, eS⟩ : ∃ S, S = seedG k c := ⟨_, rfl⟩
  obtain ⟨L, eL⟩ : ∃ L, L = unpackTo d (8 * d.size) := ⟨_, rfl⟩
  obtain ⟨n, en⟩ : ∃ n, n = 8 * d.size := ⟨_, rfl⟩
  rw [← eL] at cB hl hbt H
  rw [← eS] at cS hs H
  rw [← eS] at eR
  rw [← eR] at H
  have hn : n ≤ 4000 := by omega
  rw [← en] at hl H
  rw [show hidG d (seedG k c) = R by rw [eR, eS]]
  clear eR eS eL en hd hk hc
  have cC := fun a cp wz hr => cover_ok L S a cp wz hr hbt (bits_okG hbt (by omega)) hs
  rw [hl] at cC
  have cP := fun a cp wz hr => pack_ok (addTo L (noiseTo S n) n) a cp wz hr (add_bitsG _ _ _) (by rw [addTo_length]; omega) (bits_okG (add_bitsG _ _ _) (by rw [addTo_length]; omega))
  rw [addTo_length, H.out] at cP
  go_enter Try.func27, Try.ntmps27
  go_wp2_with (first | (go_at_call 37; refine (cB _).mono ?_; rintro e w1 ⟨v1, rfl, hO1, hb1⟩; obtain ⟨a1, c1, rfl, -, -⟩ := hO1.shape; rw [hl]) | (go_at_call 38; refine (cS _).mono ?_; rintro e w2 ⟨rfl, rfl⟩))
  refine (cC a1 c1 _ hO1.rd).mono ?_
  rintro e w2 ⟨v2, rfl, hO2, hb2⟩
  obtain ⟨a2, c2, rfl, -, -⟩ := hO2.shape
  rw [addTo_length]
  go_wp2_with fail
  refine (cP a2 c2 _ hO2.rd).mono ?_
  rintro e w3 ⟨rfl, hb3⟩
  go_wp2
  go_ret
  exact ⟨rfl, bthen hb1 (bthen hb2 hb3)⟩
theorem conv_three (x y z : Int) (wz : World) : (convert 75 9 (.slice (some ⟨wz.heap.size, 0, none⟩) 3 3)).run Try.prog (wz.alloc (.cells #[.int .u8 x, .int .u8 y, .int .u8 z] 5)) = .ok (.string (strOfNums [x, y, z])) (wz.alloc (.cells #[.int .u8 x, .int .u8 y, .int .u8 z] 5)) := by
  refine conv_rd (L := [x, y, z]) ?_ 3
  intro _
  refine ⟨wz.heap.size, 0, rfl, fun j hj => ?_⟩
  have hj3 : j < 3 := hj
  rw [cell_of_row _ _ _ _ _ _ (heap_alloc_new wz _)]
  rcases (show j = 0 ∨ j = 1 ∨ j = 2 by omega) with rfl | rfl | rfl <;> rfl
set_option maxRecDepth 100000 in
theorem sealOf_any (d : ByteArray) (c : Nat) (w : World) (hd : d.size ≤ 500) :
    Calls Try.prog 28 #[.int .i64 (c : Int), .string d] w fun e w' => e = .returned (.string (sealG c d)) ∧ Below w.heap.size w w' := by
  have hsz : (headG c ++ d).size = 3 + d.size := by rw [ByteArray.size_append, headG_size]
  have cB := fun wz => bitsOf_any (headG c ++ d) wz (by omega)
  rw [hsz] at cB
  have H := hid (show strOfNums (packL (ksum (unpackTo (headG c ++ d) (8 * (3 + d.size))) 3)) = sealG c d from rfl)
  have hl : (unpackTo (headG c ++ d) (8 * (3 + d.size))).length = 8 * (3 + d.size) := unpackTo_length _ _
  have hh := headG_size c
  have hbt := unpack_bitsG (headG c ++ d) (8 * (3 + d.size))
  obtain ⟨R, eR⟩ : ∃ R, R = sealG c d := ⟨_, rfl⟩
  obtain ⟨L, eL⟩ : ∃ L, L = unpackTo (headG c ++ d) (8 * (3 + d.size)) := ⟨_, rfl⟩
  obtain ⟨n, en⟩ : ∃ n, n = 8 * (3 + d.size) := ⟨_, rfl⟩
  rw [← eL] at cB hl hbt H
  rw [← eR] at H ⊢
  have hn : n ≤ 4024 := by omega
  rw [← en] at hl
  clear eR eL en
  have cC := fun a cp wz hr => sum_ok L 3 a cp wz hr (bits_bytesG hbt) (by unfold errSum; rw [if_pos (bits_okG hbt (by omega)), if_pos isKind3G])
  rw [hl] at cC
  have cP := fun a cp wz hr => pack_ok (ksum L 3) a cp wz hr (ksum_bitsG _ _) (by rw [ksum3_len]; omega) (bits_okG (ksum_bitsG _ _) (by rw [ksum3_len]; omega))
  rw [ksum3_len, H.out] at cP
  go_enter Try.func28, Try.ntmps28
  have hcv := fun wz => conv_three ((c : Int) / 65536 % 256) ((c : Int) / 256 % 256) ((c : Int) % 256) wz
  rw [show strOfNums [(c : Int) / 65536 % 256, (c : Int) / 256 % 256, (c : Int) % 256] = headG c from rfl] at hcv
  go_wp2_with (go_at_call 37; refine (cB _).mono ?_; rintro e w1 ⟨v1, rfl, hO1, hb1⟩; obtain ⟨a1, c1, rfl, -, -⟩ := hO1.shape; rw [hl])
  refine (cC a1 c1 _ hO1.rd).mono ?_
  rintro e w2 ⟨v2, rfl, hO2, hb2⟩
  obtain ⟨a2, c2, rfl, -, -⟩ := hO2.shape
  rw [ksum3_len]
  go_wp2_with fail
  refine (cP a2 c2 _ hO2.rd).mono ?_
  rintro e w3 ⟨rfl, hb3⟩
  go_wp2
  go_ret
  exact ⟨rfl, bthen ((Below.refl _ _).alloc (Nat.le_refl _) _) (bthen hb1 (bthen hb2 hb3))⟩
theorem At.setCellG {w : World} {b : Nat} {T : TypeId} {cur : List Value} (h : At w b T cur) (o : Nat) (v : Value) : At (w.setCell ⟨b, o, none⟩ v) b T (cur.set o v) := by
  unfold At at h ⊢
  rw [heap_setCell_same w b o _ T v h]
  simp
theorem at_newG (w : World) (T : TypeId) (cur : List Value) : At (w.alloc (.cells cur.toArray T)) w.heap.size T cur := heap_alloc_new w (.cells cur.toArray T)
theorem packetOf_any (d : ByteArray) (k : Int) (c : Nat) (w : World) (hd : d.size ≤ 500) (hk : 0 ≤ k ∧ k < 2147483648) (hc : c ≤ 33554432) :
    Calls Try.prog 23 #[.string d, .int .i64 k, .int .i64 (c : Int)] w fun e w' => e = .returned (pktG k c d).val ∧ Below w.heap.size w w' := by
  have cC := fun wz => gcover_any d k c wz hd hk hc
  have cS := fun wz => sealOf_any d c wz hd
  have H := hid (show Value.agg #[.int .i64 ((c : Int) % 4096), .string (hidG d (seedG k c)), .string (sealG c d)] = (pktG k c d).val by unfold pktG PktM.val; simp)
  obtain ⟨V, eV⟩ : ∃ V, V = (pktG k c d).val := ⟨_, rfl⟩
  rw [← eV] at H ⊢
  obtain ⟨A, eA⟩ : ∃ A, A = hidG d (seedG k c) := ⟨_, rfl⟩
  obtain ⟨B, eB⟩ : ∃ B, B = sealG c d := ⟨_, rfl⟩
  rw [← eA, ← eB] at H
  rw [← eA] at cC
  rw [← eB] at cS
  clear eV eA eB
  have HA := hid (at_newG w 43 [.int .i64 0, .string { data := #[] }, .string { data := #[] }])
  go_enter Try.func23, Try.ntmps23
  go_wp2_with (first | (go_at_call 27; refine (cC _).mono ?_; rintro e w1 ⟨rfl, hb1⟩) | (go_at_call 28; refine (cS _).mono ?_; rintro e w2 ⟨rfl, hb2⟩; have t5 := (HA.out.kept (S := []) (Kept.of_below hb1) (by simp)).kept (S := []) (Kept.of_below hb2) (by simp); have y0 : w2.cell? ⟨w.heap.size, 0, none⟩ = some (.int .i64 0) := t5.cell 0; have y1 : w2.cell? ⟨w.heap.size, 1, none⟩ = some (.string { data := #[] }) := t5.cell 1; have y2 : w2.cell? ⟨w.heap.size, 2, none⟩ = some (.string { data := #[] }) := t5.cell 2; have z0 := t5.free 0; have z1 := t5.free 1; have z2 := t5.free 2))
  have hZ : At (((w2.setCell ⟨w.heap.size, 0, none⟩ (.int .i64 ((c : Int) % 4096))).setCell ⟨w.heap.size, 1, none⟩ (.string A)).setCell ⟨w.heap.size, 2, none⟩ (.string B)) w.heap.size 43 [.int .i64 ((c : Int) % 4096), .string A, .string B] := ((t5.setCellG 0 (.int .i64 ((c : Int) % 4096))).setCellG 1 (.string A)).setCellG 2 (.string B)
  have hB : Below w.heap.size w (((w2.setCell ⟨w.heap.size, 0, none⟩ (.int .i64 ((c : Int) % 4096))).setCell ⟨w.heap.size, 1, none⟩ (.string A)).setCell ⟨w.heap.size, 2, none⟩ (.string B)) := (((bthen ((Below.refl _ _).alloc (Nat.le_refl _) _) (bthen hb1 hb2)).setCell (Nat.le_refl _) _).setCell (Nat.le_refl _) _).setCell (Nat.le_refl _) _
  (try simp only [Exit.inBlock, Exit.then])
  refine bodyPost_ret (results_cell_row (p := 6) (ty := 43) (by kernel_rfl) _ _ w.heap.size 43 _ (0, 0) _ rfl hZ Try.underlying43 rfl (by kernel_rfl)) rfl ?_
  exact ⟨by rw [← H.out], hB⟩
def keyOk (k : Int) : Bool := decide (0 ≤ k) && decide (k ≤ 2147483647)
def keyErr (k : Int) : Int := if keyOk k then 0 else 1
theorem checkKey_any (k : Int) (w : World) : Calls Try.prog 21 #[.int .i64 k] w fun e w' => e = .returned (.int .i64 (keyErr k)) ∧ w = w' := by
  by_cases h1 : k < 0
  · have H := hid (show keyErr k = 1 by unfold keyErr keyOk; simp [show ¬ (0 ≤ k) by omega])
    go_enter Try.func21, Try.ntmps21
    go_wp2
    go_ret
    exact ⟨by rw [H.out]; rfl, rfl⟩
  · by_cases h2 : 2147483647 < k
    · have H := hid (show keyErr k = 1 by unfold keyErr keyOk; simp [show ¬ (k ≤ 2147483647) by omega])
      go_enter Try.func21, Try.ntmps21
      go_wp2
      go_ret
      exact ⟨by rw [H.out]; rfl, rfl⟩
    · have H := hid (show keyErr k = 0 by unfold keyErr keyOk; simp [show 0 ≤ k by omega, show k ≤ 2147483647 by omega])
      go_enter Try.func21, Try.ntmps21
      go_wp2
      go_ret
      exact ⟨by rw [H.out]; rfl, rfl⟩
end Go.Proofs.Ytbmdjfolfmgmmag
