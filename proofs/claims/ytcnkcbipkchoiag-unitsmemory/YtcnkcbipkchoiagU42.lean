import Derived.Test.YtcnkcbipkchoiagU41
import Derived.ArgAppend
namespace Go.Proofs.Ytcnkcbipkchoiag
open Go.ChangeShapes Go.WideShapes Go.ChangeAt Go.RowKit
def blkG : Value → List Nat
  | .slice (some a) _ _ => [a.block]
  | _ => []
/-- Texts that lie in a block's midst, room behind them. -/
def Mid (w : World) (v : Value) (L : List ByteArray) : Prop :=
  (v = .slice none 0 0 ∧ L = []) ∨ ∃ g o c cur, v = .slice (some ⟨g, o, none⟩) L.length c ∧ At w g 9 cur ∧ L.length ≤ c ∧ c ≤ maxLen ∧ o + c ≤ cur.length ∧ ∀ i, i < L.length → cur[o + i]? = some (.string (L.getD i ByteArray.empty))
theorem Mid.kept {w w' : World} {v : Value} {L : List ByteArray} {S : List Nat} (h : Mid w v L) (hk : Kept S w w') (hn : ∀ x ∈ blkG v, x ∉ S) : Mid w' v L := by
  rcases h with h | ⟨g, o, c, cur, rfl, hA, r⟩
  · exact .inl h
  · exact .inr ⟨g, o, c, cur, rfl, hA.kept hk (hn g (by simp [blkG])), r⟩
theorem Mid.lt {w : World} {v : Value} {L : List ByteArray} (h : Mid w v L) : ∀ x ∈ blkG v, x < w.heap.size := by
  rcases h with ⟨rfl, _⟩ | ⟨g, o, c, cur, rfl, hA, r⟩
  · intro x hx; simp [blkG] at hx
  · intro x hx
    simp only [blkG, List.mem_singleton] at hx
    subst hx
    exact hA.lt
theorem Mid.shape {w : World} {v : Value} {L : List ByteArray} (h : Mid w v L) : ∃ a c, v = .slice a L.length c ∧ L.length ≤ c ∧ c ≤ maxLen := by
  rcases h with ⟨rfl, rfl⟩ | ⟨g, o, c, cur, rfl, hA, r1, r2, _⟩
  · exact ⟨none, 0, rfl, Nat.le_refl _, by unfold maxLen; omega⟩
  · exact ⟨_, c, rfl, r1, r2⟩
theorem Mid.txs {w : World} {a : Option Addr} {n c : Nat} {L : List ByteArray} (h : Mid w (.slice a n c) L) : Txs w a L := by
  intro hne
  rcases h with ⟨_, h0⟩ | ⟨g, o, c, cur, h', hA, r1, r2, r3, r4⟩
  · exact absurd h0 hne
  · simp only [Value.slice.injEq] at h'
    obtain ⟨rfl, _, _⟩ := h'
    exact ⟨g, o, rfl, fun i hi => by rw [hA.cell, r4 i hi]⟩
theorem mid_row {w : World} {B n : Nat} {v : Value} {L : List ByteArray} (h : w.ownsRow B 9 1 v n (L.map Value.string)) : Mid w v L := by
  have hl : L.length = n := by have := h.1; simpa using this
  rcases h.2 with ⟨rfl, h0⟩ | ⟨g, cap, cur, rfl, _, hg, h1, h2, h3, h4⟩
  · exact .inl ⟨rfl, List.eq_nil_of_length_eq_zero (by omega)⟩
  · refine .inr ⟨g, 0, cap, cur.toList, by rw [hl], by unfold At; rw [Array.toArray_toList]; exact hg, by omega, h2, by simp [h3], fun i hi => ?_⟩
    have e : cur.toList[i]? = (L.map Value.string)[i]? := by
      rw [← h4, List.getElem?_take_of_lt (by omega)]
    rw [Nat.zero_add, e]
    simp [List.getD, hi]
theorem getD_snocG (L : List ByteArray) (x : ByteArray) (i : Nat) : (L ++ [x]).getD i ByteArray.empty = if i = L.length then x else L.getD i ByteArray.empty := by
  by_cases h : i < L.length
  · rw [if_neg (by omega)]
    simp [List.getD, List.getElem?_append_left h]
  · by_cases h2 : i = L.length
    · subst h2
      simp [List.getD]
    · rw [if_neg h2]
      simp [List.getD, List.getElem?_eq_none (show (L ++ [x]).length ≤ i by simp; omega), List.getElem?_eq_none (show L.length ≤ i by omega)]
theorem getD_mapG (L : List ByteArray) (j : Nat) (u : Value) (h : (L.map Value.string)[j]? = some u) : u = .string (L.getD j ByteArray.empty) ∧ j < L.length := by
  simp only [List.getElem?_map, Option.map_eq_some_iff] at h
  obtain ⟨y, hy, rfl⟩ := h
  obtain ⟨h1, h2⟩ := List.getElem?_eq_some_iff.1 hy
  exact ⟨by simp [List.getD, h1, h2], h1⟩
/-- One text more. -/
theorem run_pushMid {w : World} {v : Value} {L : List ByteArray} (h : Mid w v L) (x : ByteArray) (t ty : TypeId) (ht : Try.prog.underlying t = some (.slice 9)) (gb : Nat) (hx : w.cell? ⟨gb, 0, none⟩ = some (.string x)) (hm : L.length < 1099511627776) :
    ∃ v' w', (Builtin.append_ #[t, t] ty #[v, .slice (some ⟨gb, 0, none⟩) 1 1]).run Try.prog w = .ok v' w' ∧ Mid w' v' (L ++ [x]) ∧ Kept (blkG v) w w' ∧ Grown w.heap.size (blkG v) (blkG v') := by
  obtain ⟨i0, hi, hz0, hz1, hz2⟩ := info_parts Try.infoTx
  have hnews : ∀ j u, [Value.string x][j]? = some u → w.cell? ((⟨gb, 0, none⟩ : Addr).add j) = some u := fun j u hj => by
    have : j = 0 := by
      have := (List.getElem?_eq_some_iff.1 hj).1
      simpa using this
    subst this
    rw [Addr.add_lit, hx]
    simpa using hj
  have hb : (L.length + 1) * 16 ≤ 140737488355328 := by omega
  have hmax : L.length + 1 ≤ maxLen := by unfold maxLen; omega
  have hnew : ∀ (v' : Value) (w' : World) (B : Nat), w'.ownsRow B 9 1 v' (L.length + 1) (L.map Value.string ++ [.string x]) → Mid w' v' (L ++ [x]) := fun v' w' B ho => mid_row (B := B) (n := L.length + 1) (by rw [List.map_append]; exact ho)
  have hbl : ∀ (v' : Value) (w' : World), w'.ownsRow w.heap.size 9 1 v' (L.length + 1) (L.map Value.string ++ [.string x]) → ∀ F, Grown w.heap.size F (blkG v') := fun v' w' ho F y hy => by
    rcases ho.2 with ⟨_, h0⟩ | ⟨g, cap, cur, rfl, hB, _⟩
    · omega
    · simp only [blkG, List.mem_singleton] at hy
      subst hy
      exact .inr hB
  rcases h with ⟨rfl, rfl⟩ | ⟨g, o, c, cur, rfl, hA, r1, r2, r3, r4⟩
  · obtain ⟨v', w', hrun, ho, hgb, _⟩ := run_append_own (P := Try.prog) w w.heap.size t ty 9 i0 _ 1 16 ht hi hz0 hz1 hz2 rfl (by omega) (.slice none 0 0) 0 [] ⟨rfl, .inl ⟨rfl, rfl⟩⟩ ⟨gb, 0, none⟩ 1 1 [.string x] rfl hnews (by simp [Value.oneCell']) hmax hb (Nat.le_refl _)
    exact ⟨v', w', hrun, hnew _ _ _ ho, ⟨hgb.os, hgb.tape, hgb.output, hgb.size, fun k hk _ => hgb.block k hk (by simp [Value.ownBlock])⟩, hbl _ _ ho _⟩
  · by_cases hr : L.length + 1 ≤ c
    · have hlt : o + L.length < cur.length := by omega
      have hrun := run_append_room_cells (P := Try.prog) w t ty 9 i0 ht hi g o L.length c ⟨gb, 0, none⟩ 1 1 [.string x] (by rw [hz1]; rfl) hnews (by simp [Value.oneCell']) hr
        (fun j hj => by
          have : j = 0 := by simpa using hj
          subst this
          rw [hz1, hA.cell, List.getElem?_eq_getElem (by omega)]
          rfl) (fun j _ => hA.free _)
      refine ⟨_, _, hrun, ?_, ?_, fun y hy => .inl hy⟩
      · refine .inr ⟨g, o, c, cur.set (o + L.length) (.string x), by simp, ?_, by simpa using hr, r2, by simpa using r3, fun i hi' => ?_⟩
        · have := hA.setCellG (o + L.length) (.string x)
          rw [hz1, Nat.mul_one]
          exact this
        · rw [getD_snocG]
          rw [List.length_append, List.length_singleton] at hi'
          by_cases he : i = L.length
          · subst he
            rw [if_pos rfl, List.getElem?_set_self hlt]
          · rw [if_neg he, List.getElem?_set_ne (by omega)]
            exact r4 i (by omega)
      · show Kept [g] w _
        rw [hz1, Nat.mul_one]
        exact (Kept.refl _ w).setCell (by simp) _
    · obtain ⟨v', w', hrun, ho, hgb⟩ := run_append_arg_grows (P := Try.prog) w t ty 9 i0 _ 1 16 ht hi hz0 hz1 hz2 rfl (by omega) ⟨g, o, none⟩ L.length c (L.map Value.string) (by simp) (fun j u hj => by
          obtain ⟨rfl, hjl⟩ := getD_mapG L j u hj
          rw [Addr.add_lit, hA.cell, r4 j hjl]) ⟨gb, 0, none⟩ 1 1 [.string x] rfl hnews (by omega) hmax hb
      exact ⟨v', w', hrun, hnew _ _ _ ho, ⟨hgb.os, hgb.tape, hgb.output, hgb.size, fun k hk _ => hgb.block k hk (by simp)⟩, hbl _ _ ho _⟩
end Go.Proofs.Ytcnkcbipkchoiag
namespace Go.Proofs.Ytcnkcbipkchoiag
open Go.ChangeShapes Go.WideShapes Go.ChangeAt Go.RowKit
structure SdM where
  key : Int
  beg : Nat
  wait : List ByteArray
def SdM.nxt (m : SdM) : Nat := m.beg + m.wait.length
def SdM.new (k : Int) : SdM := ⟨k, 0, []⟩
structure SdM.Ok (m : SdM) : Prop where
  key : 0 ≤ m.key ∧ m.key < 2147483648
  few : m.nxt ≤ 16777216
  small : ∀ i, i < m.wait.length → (m.wait.getD i ByteArray.empty).size ≤ 500
structure PSd (w : World) (g : Nat) (v : Value) (m : SdM) : Prop where
  hd : At w g 116 [.int .i64 m.key, .int .i64 (m.beg : Int), v]
  mid : Mid w v m.wait
  ne : g ∉ blkG v
  ok : m.Ok
def sdF (g : Nat) (v : Value) : List Nat := g :: blkG v
theorem PSd.kept {w w' : World} {g : Nat} {v : Value} {m : SdM} {S : List Nat} (h : PSd w g v m) (hk : Kept S w w') (hn : ∀ x ∈ sdF g v, x ∉ S) : PSd w' g v m :=
  ⟨h.hd.kept hk (hn g (List.mem_cons_self)), h.mid.kept hk (fun x hx => hn x (List.mem_cons_of_mem _ hx)), h.ne, h.ok⟩
theorem PSd.lt {w : World} {g : Nat} {v : Value} {m : SdM} (h : PSd w g v m) : ∀ x ∈ sdF g v, x < w.heap.size := fun x hx => by
  rcases List.mem_cons.1 hx with rfl | hx
  · exact h.hd.lt
  · exact h.mid.lt x hx
theorem Kept.newG {S S' : List Nat} {a b c : World} (h : Kept S a b) (k : Kept S' b c) (hs : ∀ x ∈ S', x ∈ S ∨ a.heap.size ≤ x) : Kept S a c :=
  ⟨k.os.trans h.os, k.tape.trans h.tape, k.output.trans h.output, Nat.le_trans h.size k.size, fun i hi hn => (k.block i (Nat.lt_of_lt_of_le hi h.size) (fun e => by rcases hs i e with e | e; exact hn e; omega)).trans (h.block i hi hn)⟩
theorem keyOk_bd {k : Int} (h : keyOk k = true) : 0 ≤ k ∧ k < 2147483648 := by
  unfold keyOk at h
  simp only [Bool.and_eq_true, decide_eq_true_eq] at h
  omega
theorem gnewS_ok (k : Int) (w : World) (hk : keyOk k = true) :
    Calls Try.prog 8 #[.int .i64 k] w fun e w' => e = .returned (.tuple #[.pointer (some ⟨w.heap.size, 0, none⟩), .int .i64 0]) ∧ PSd w' w.heap.size (.slice none 0 0) (.new k) ∧ Below w.heap.size w w' := by
  have hc := fun wz => checkKey_any k wz
  rw [show keyErr k = 0 by unfold keyErr; rw [if_pos hk]] at hc
  have hb := keyOk_bd hk
  have HP : Hid (PSd (w.alloc (.cells #[.int .i64 k, .int .i64 0, .slice none 0 0] 116)) w.heap.size (.slice none 0 0) (.new k)) := ⟨at_newG w _ _, .inl ⟨rfl, rfl⟩, by simp [blkG], ⟨hb, by show 0 + 0 ≤ 16777216; omega, fun i hi => absurd hi (by simp [SdM.new])⟩⟩
  clear hk hb
  go_enter Try.func8, Try.ntmps8
  go_wp2_with (go_at_call 50; refine (hc _).mono ?_; rintro e w' ⟨rfl, rfl⟩)
  go_ret2
  exact ⟨rfl, HP.out, (Below.refl _ w).alloc (Nat.le_refl _) _⟩
theorem gnext_any {w : World} {g : Nat} {v : Value} {m : SdM} (h : PSd w g v m) :
    Calls Try.prog 51 #[.pointer (some ⟨g, 0, none⟩)] w fun e w' => e = .returned (.int .i64 (m.nxt : Nat)) ∧ Below w.heap.size w w' := by
  obtain ⟨a, c, rfl, -, -⟩ := h.mid.shape
  have c1 : w.cell? ⟨g, 1, none⟩ = some (.int .i64 (m.beg : Int)) := h.hd.cell 1
  have c2 : w.cell? ⟨g, 2, none⟩ = some (.slice a m.wait.length c) := h.hd.cell 2
  have hf : m.beg + m.wait.length ≤ 16777216 := h.ok.few
  have H := hid (show ((m.nxt : Nat) : Int) = (m.beg : Int) + (m.wait.length : Int) by unfold SdM.nxt; omega)
  clear h
  go_enter Try.func51, Try.ntmps51
  go_upto_region 1 with fail
  go_region
  go_wp2
  go_ret
  exact ⟨by rw [H.out]; rfl, (Below.refl _ w).drew⟩
def SdM.send (m : SdM) (d : ByteArray) : SdM := ⟨m.key, m.beg, m.wait ++ [d]⟩
theorem SdM.Ok.send {m : SdM} {d : ByteArray} (h : m.Ok) (hd : d.size ≤ 500) (hf : m.nxt < 16777216) : (m.send d).Ok := by
  refine ⟨h.key, ?_, fun i hi => ?_⟩
  · show m.beg + (m.wait ++ [d]).length ≤ 16777216
    have : m.beg + m.wait.length < 16777216 := hf
    rw [List.length_append, List.length_singleton]
    omega
  · show ((m.wait ++ [d]).getD i ByteArray.empty).size ≤ 500
    have hi' : i < m.wait.length + 1 := by have : i < (m.wait ++ [d]).length := hi; simpa using this
    rw [getD_snocG]
    split
    · exact hd
    · exact h.small i (by omega)
def GsPost (w : World) (g : Nat) (v : Value) (m' : SdM) (r : Value) : Ending → World → Prop := fun e w' => e = .returned r ∧ Kept (sdF g v) w w' ∧ ∃ v', PSd w' g v' m' ∧ Grown w.heap.size (blkG v) (blkG v')
set_option maxRecDepth 100000 in
set_option maxHeartbeats 1000000 in
theorem gsend_ok {w : World} {g : Nat} {v : Value} {m : SdM} {d : ByteArray} (h : PSd w g v m) (hd : d.size ≤ 500) (hf : m.nxt < 16777216) :
    Calls Try.prog 11 #[.pointer (some ⟨g, 0, none⟩), .string d] w (GsPost w g v (m.send d) (.tuple #[(pktG m.key m.nxt d).val, .int .i64 0])) := by
  have hb0 : Below w.heap.size w (w.alloc (.cells #[.int .i64 0, .string { data := #[] }, .string { data := #[] }] 43)) := (Below.refl _ w).alloc (Nat.le_refl _) _
  have h0 := h.kept (S := []) (Kept.of_below hb0) (by simp)
  have hn := gnext_any h0
  have hP := fun wz => packetOf_any d m.key m.nxt wz hd h.ok.key (by omega)
  have hA := at_newG w 43 [.int .i64 0, .string { data := #[] }, .string { data := #[] }]
  have hlt := h.lt
  have hwl : m.wait.length < 1099511627776 := by
    have : m.beg + m.wait.length < 16777216 := hf
    omega
  obtain ⟨a, c, rfl, -, -⟩ := h.mid.shape
  have hF : ∀ w1 : World, Below (w.alloc (.cells #[.int .i64 0, .string { data := #[] }, .string { data := #[] }] 43)).heap.size (w.alloc (.cells #[.int .i64 0, .string { data := #[] }, .string { data := #[] }] 43)) w1 →
      w1.cell? ⟨g, 2, none⟩ = some (.slice a m.wait.length c) ∧ ∃ a' c' w3, (Builtin.append_ #[32, 32] 32 #[.slice a m.wait.length c, .slice (some ⟨w1.heap.size, 0, none⟩) 1 1]).run Try.prog (w1.alloc (.cells #[.string d] 9)) = .ok (.slice a' (m.wait.length + 1) c') w3 ∧
        w3.cell? ⟨g, 0, none⟩ = some (.int .i64 m.key) ∧ w3.cell? ⟨g, 2, none⟩ = some (.slice a m.wait.length c) ∧ w3.frozen? ⟨g, 2, none⟩ = false ∧ ∀ w5, Below (w3.setCell ⟨g, 2, none⟩ (.slice a' (m.wait.length + 1) c')).heap.size (w3.setCell ⟨g, 2, none⟩ (.slice a' (m.wait.length + 1) c')) w5 →
          At w5 w.heap.size 43 [.int .i64 0, .string { data := #[] }, .string { data := #[] }] ∧ ∀ x y z, Kept (sdF g (.slice a m.wait.length c)) w (((w5.setCell ⟨w.heap.size, 0, none⟩ x).setCell ⟨w.heap.size, 1, none⟩ y).setCell ⟨w.heap.size, 2, none⟩ z) ∧ ∃ v', PSd (((w5.setCell ⟨w.heap.size, 0, none⟩ x).setCell ⟨w.heap.size, 1, none⟩ y).setCell ⟨w.heap.size, 2, none⟩ z) g v' (m.send d) ∧ Grown w.heap.size (blkG (.slice a m.wait.length c)) (blkG v') := fun w1 hb1 => by
    have h1 := h0.kept (S := []) (Kept.of_below hb1) (by simp)
    have hA1 := hA.kept (S := []) (Kept.of_below hb1) (by simp)
    refine ⟨h1.hd.cell 2, ?_⟩
    have hk2 : Kept [] w1 (w1.alloc (.cells #[.string d] 9)) := (Kept.refl _ w1).alloc _
    have h2 := h1.kept hk2 (by simp)
    have hA2 := hA1.kept hk2 (by simp)
    obtain ⟨v', w3, hR, hM, hK, hG⟩ := run_pushMid h2.mid d 32 32 Try.underlying32 w1.heap.size ((at_newG w1 9 [.string d]).cell 0) hwl
    obtain ⟨a', c', rfl, q1, q2⟩ := hM.shape
    rw [List.length_append, List.length_singleton] at hR hM hG
    have hgn := h.ne
    have hH3 := h2.hd.kept hK hgn
    have hs1 : w.heap.size + 1 ≤ w1.heap.size := by have := hb1.size; rw [World.size_alloc] at this; exact this
    have hA3 := hA2.kept hK (fun hx => by have := hlt _ (List.mem_cons_of_mem _ hx); omega)
    have hgl : g < w.heap.size := hlt g List.mem_cons_self
    refine ⟨a', c', w3, hR, hH3.cell 0, hH3.cell 2, hH3.free 2, fun w5 hb5 => ?_⟩
    have hH4 := (hH3.setCellG 2 (.slice a' (m.wait.length + 1) c')).kept (S := []) (Kept.of_below hb5) (by simp)
    have hk4 : Kept [g] w3 (w3.setCell ⟨g, 2, none⟩ (.slice a' (m.wait.length + 1) c')) := (Kept.refl _ w3).setCell (by simp) _
    have hgn' : g ∉ blkG (.slice a' (m.wait.length + 1) c') := fun hx => by
      rcases hG g hx with hx | hx
      · exact hgn hx
      · rw [World.size_alloc] at hx; omega
    have hM4 := (hM.kept hk4 (fun x hx e => hgn' (by simp at e; rw [← e]; exact hx))).kept (S := []) (Kept.of_below hb5) (by simp)
    have hA5 := (hA3.kept hk4 (by simp; omega)).kept (S := []) (Kept.of_below hb5) (by simp)
    refine ⟨hA5, fun x y z => ?_⟩
    have hk6 : Kept [w.heap.size] w5 (((w5.setCell ⟨w.heap.size, 0, none⟩ x).setCell ⟨w.heap.size, 1, none⟩ y).setCell ⟨w.heap.size, 2, none⟩ z) := (((Kept.refl _ w5).setCell (by simp) _).setCell (by simp) _).setCell (by simp) _
    have hGr : Grown w.heap.size (blkG (.slice a m.wait.length c)) (blkG (.slice a' (m.wait.length + 1) c')) := fun x hx => by
      rcases hG x hx with hx | hx
      · exact .inl hx
      · exact .inr (by rw [World.size_alloc] at hx; omega)
    have hwn : ∀ x ∈ sdF g (.slice a' (m.wait.length + 1) c'), x ∉ [w.heap.size] := fun x hx e => by
      rw [List.mem_singleton] at e
      subst e
      rcases List.mem_cons.1 hx with e | hx
      · omega
      · rcases hG _ hx with hx | hx
        · have := hlt _ (List.mem_cons_of_mem _ hx); omega
        · rw [World.size_alloc] at hx; omega
    refine ⟨?_, _, ⟨hH4.kept hk6 (hwn g List.mem_cons_self), hM4.kept hk6 (fun x hx => hwn x (List.mem_cons_of_mem _ hx)), hgn', h.ok.send hd hf⟩, hGr⟩
    have e1 : Kept (sdF g (.slice a m.wait.length c)) w w3 := (((Kept.of_below (bthen hb0 hb1)).trans (hk2.wider (by simp))).trans (hK.wider (fun x hx => List.mem_cons_of_mem _ hx)))
    have e2 : Kept (sdF g (.slice a m.wait.length c)) w w5 := (e1.trans (hk4.wider (fun x hx => by rw [List.mem_singleton] at hx; subst hx; exact List.mem_cons_self))).trans (Kept.of_below hb5)
    exact e2.newG hk6 (fun x hx => .inr (by rw [List.mem_singleton] at hx; omega))
  obtain ⟨R, eR⟩ : ∃ R, R = pktG m.key m.nxt d := ⟨_, rfl⟩
  rw [← eR] at hP ⊢
  obtain ⟨rx, ry, rz⟩ := R
  dsimp only [PktM.val] at hP ⊢
  have HF := hid hF
  obtain ⟨M, eM⟩ : ∃ M : Int, M = (m.nxt : Nat) := ⟨_, rfl⟩
  rw [← eM] at hn hP
  have hI : M < (16777216 : Int) := by omega
  clear h h0 hF hf eR hlt hwl hA eM
  go_enter Try.func11, Try.ntmps11
  go_wp2_with (first
    | (go_at_call 51; refine hn.mono ?_; rintro e w1 ⟨rfl, hb1⟩; obtain ⟨x2, a', c', w3, hR, k0, k2, kf, hE⟩ := HF.out w1 hb1; have HE := hid hE; clear hE)
    | (at_builtin; refine wpList_bi2 _ rfl .append _ _ 32 32 rfl _ _ rfl rfl (bi_append hR) ?_)
    | (go_at_call 52; refine (hP _).mono ?_; rintro e w5 ⟨rfl, hb5⟩; obtain ⟨hA5, hE5⟩ := HE.out w5 hb5; have HE5 := hid hE5; clear hE5; have y0 : w5.cell? ⟨w.heap.size, 0, none⟩ = some (.int .i64 0) := hA5.cell 0; have y1 : w5.cell? ⟨w.heap.size, 1, none⟩ = some (.string { data := #[] }) := hA5.cell 1; have y2 : w5.cell? ⟨w.heap.size, 2, none⟩ = some (.string { data := #[] }) := hA5.cell 2; have z0 := hA5.free 0; have z1 := hA5.free 1; have z2 := hA5.free 2))
  (try simp only [Exit.inBlock, Exit.then])
  refine bodyPost_ret (v := .tuple #[.agg #[.int .i64 rx, .string ry, .string rz], .int .i64 0]) ?_ rfl ⟨rfl, HE5.out _ _ _⟩
  rw [results_cell_tmp rfl]
  clear HE5 HE HF hR hb5 hb1
  go_simp
end Go.Proofs.Ytcnkcbipkchoiag
