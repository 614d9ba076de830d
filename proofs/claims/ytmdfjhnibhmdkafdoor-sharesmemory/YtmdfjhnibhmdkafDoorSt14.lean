import Derived.Test.YtmdfjhnibhmdkafDoorSt13
import Derived.Test.YtmdfjhnibhmdkafDoorSt03
namespace Go.Proofs.YtmdfjhnibhmdkafDoor
open Go.ChangeShapes Go.WideShapes Go.ChangeAt Go.RowKit Go.Maps
def zeroBlk : Value := .agg #[.string { data := #[] }, .int .i64 0, .bool false]
theorem BlkMap.alloc {w : World} {bm : Nat} {m : SendM} (h : BlkMap w bm m) (o : Obj) : BlkMap (w.alloc o) bm m := h.same (Below.heap_alloc w o bm h.lt)
theorem wpList_lookBlk (w : World) {ops : Array Oper} {rest : List Oper} {o : Oper} {a : Act} {Q : Exit → Act → World → Prop} (hg : o.guard = none) (mO x : Operand) (hop : o.op = Op.lookup 94 mO x true)
    {bm : Nat} {m : SendM} (hm : a.eval mO = .map (some bm)) (hB : BlkMap w bm m) {k : Nat} (hk : k < 8) (hx : a.eval x = .int .i64 (k : Int)) (v : Value) (b : Bool) (hb : (m.tat k).busy = b) (hv : v = if b then (m.tat k).blk else zeroBlk)
    (hK : wpList Tryd.prog ops Q rest (a.put o.dst (.tuple #[v, .bool b])) w) : wpList Tryd.prog ops Q (o :: rest) a w := by
  obtain ⟨D, ho, _, hD⟩ := hB
  refine wpList_lookup_own_ok w hg mO x 94 hop 3 100 Tryd.lawI Tryd.underlying94 heldElem (Tryd.zeroB w) (.held zeroBlk) [] rfl bm 8 D hm ho _ _ hx (keyI hk) (fun u ps hu => ?_)
  have h1 := held_inj hu
  rw [(hD k hk).1, hb]
  cases b with
  | true =>
    rw [(hD k hk).2 hb] at h1
    injection h1 with h1
    subst hv
    rw [if_pos rfl, h1] at hK
    exact hK
  | false =>
    rw [atKey_of_not_has (by rw [(hD k hk).1]; exact hb)] at h1
    injection h1 with h1
    subst hv
    rw [if_neg (by simp), h1] at hK
    exact hK
theorem kept_grownH {w w' : World} {b : Nat} {S : List Nat} (h : w.grownBy w' (some b)) (hb : b ∈ S) : Kept S w w' := ⟨h.os, h.tape, h.output, h.size, fun k hk hn => h.block k hk (fun e => hn (by injection e with e; rw [e]; exact hb))⟩
theorem wpList_putBlk (w : World) {ops : Array Oper} {rest : List Oper} {o : Oper} {a : Act} {Q : Exit → Act → World → Prop} (hg : o.guard = none) (mO x v : Operand) (hop : o.op = Op.mapUpdate 94 mO x v)
    {bm : Nat} {m : SendM} (hm : a.eval mO = .map (some bm)) (hB : BlkMap w bm m) (hlen : m.p.length = 8) {k : Nat} (hk : k < 8) (hx : a.eval x = .int .i64 (k : Int)) (t : TryM) (ht : t.busy = true) (hv : a.eval v = t.blk)
    (hK : ∀ w', BlkMap w' bm (m.set k t) → w.grownBy w' (some bm) → wpList Tryd.prog ops Q rest (a.put o.dst undef) w') : wpList Tryd.prog ops Q (o :: rest) a w := by
  obtain ⟨D, ho, hs, hD⟩ := hB
  exact wpList_mapUpdate_own w hg mO x v 94 hop 3 100 Tryd.lawI Tryd.underlying94 heldElem bm 8 D hm ho (by unfold maxLen; omega) _ _ _ hx hv (keyI hk) (.held t.blk) [] rfl (fun w' h1 h2 => hK w' (BlkMap.put hlen hk t ht ho hs hD h1) h2)
set_option maxHeartbeats 1000000 in
theorem pleast_any {w : World} {g bm : Nat} {m : SendM} (h : PSend w g bm m) :
    Calls Tryd.prog 40 #[.pointer (some ⟨g, 0, none⟩)] w fun e w' => e = .returned (.int .i64 (m.least : Int)) ∧ Below w.heap.size w w' := by
  have hlen := h.2.2.len
  go_enter Tryd.func40, Tryd.ntmps40
  go_wp2_with fail
  go_loopw [6] (fun i wr => ∃ k : Nat, k ≤ 8 ∧ i = .int .i64 k ∧ (∀ j, j < k → (m.tat j).busy = true) ∧ Below w.heap.size w wr) (fun i _ => 8 - (intOf i).toNat)
  case atStart => exact ⟨0, by omega, rfl, fun j hj => by omega, Below.refl _ w⟩
  case round =>
    obtain ⟨k, hk, rfl, hbs, hb⟩ := hrel
    by_cases hlt : k < 8
    · have hP := h.old hb
      have cm := hP.map
      have hB := hP.2.1
      obtain ⟨T, eT⟩ : ∃ T, T = m.tat k := ⟨_, rfl⟩
      cases hT : (m.tat k).busy with
      | true =>
        have HB := hid hT
        have HBS := hid hbs
        have HV := hid (show (.agg #[.string T.data, .int .i64 T.tries, .bool T.opn] : Value) = if true then (m.tat k).blk else zeroBlk by rw [← eT]; rfl)
        clear eT hT hP hbs
        go_wp2_with (at_lookup; refine wpList_lookBlk _ rfl _ _ rfl rfl hB hlt rfl (.agg #[.string T.data, .int .i64 T.tries, .bool T.opn]) true HB.out HV.out ?_)
        go_roundw
        case rel => exact ⟨k + 1, by omega, by go_num, fun j hj => by
          by_cases e : j = k
          · subst e; exact HB.out
          · exact HBS.out j (by omega), hb.alloc hb.size _⟩
        case measure => simp [intOf]; omega
      | false =>
        have HB := hid hT
        have HL := hid (SendM.least_eq hlen hlt hbs hT)
        have HV := hid (show (.agg #[.string { data := #[] }, .int .i64 0, .bool false] : Value) = if false then (m.tat k).blk else zeroBlk from rfl)
        clear eT hT hP hbs
        go_wp2_with (at_lookup; refine wpList_lookBlk _ rfl _ _ rfl rfl hB hlt rfl (.agg #[.string { data := #[] }, .int .i64 0, .bool false]) false HB.out HV.out ?_)
        go_ret
        rw [HL.out]
        exact ⟨rfl, hb.alloc hb.size _⟩
    · have e : k = 8 := by omega
      subst e
      have HL := hid (SendM.least_none hlen hbs)
      clear hbs
      go_wp2_with fail
      go_ret
      rw [HL.out]
      exact ⟨rfl, hb⟩
end Go.Proofs.YtmdfjhnibhmdkafDoor
namespace Go.Proofs.YtmdfjhnibhmdkafDoor
open Go.ChangeShapes Go.WideShapes Go.ChangeAt Go.RowKit Go.Maps
def SendM.waitTo (m : SendM) (k : Nat) : List Int := ((List.range k).filter fun j => (m.tat j).busy).map fun j : Nat => (j : Int)
theorem SendM.waitTo_yes {m : SendM} {k : Nat} (h : (m.tat k).busy = true) : m.waitTo (k + 1) = m.waitTo k ++ [(k : Int)] := by simp [SendM.waitTo, List.range_succ, h]
theorem SendM.waitTo_no {m : SendM} {k : Nat} (h : (m.tat k).busy = false) : m.waitTo (k + 1) = m.waitTo k := by simp [SendM.waitTo, List.range_succ, h]
theorem SendM.waitTo_len (m : SendM) (k : Nat) : (m.waitTo k).length ≤ k := by
  unfold SendM.waitTo
  rw [List.length_map]
  exact Nat.le_trans (List.length_filter_le _ _) (by simp)
theorem wpList_lenBlk (w : World) {ops : Array Oper} {rest : List Oper} {o : Oper} {a : Act} {Q : Exit → Act → World → Prop} (hg : o.guard = none) (mO : Operand) (hop : o.op = Op.call { callee := Callee.builtin Builtin.len, args := #[mO], argTypes := #[94] })
    {bm : Nat} {m : SendM} (hm : a.eval mO = .map (some bm)) (hB : BlkMap w bm m) (hK : wpList Tryd.prog ops Q rest (a.put o.dst (.int .i64 (m.busyN : Int))) w) : wpList Tryd.prog ops Q (o :: rest) a w := by
  obtain ⟨D, ho, hs, _⟩ := hB
  rw [← hs] at hK
  exact wpList_len_own w hg mO 94 hop 3 100 Tryd.underlying94 heldElem bm 8 D hm ho hK
theorem wpList_makeW {w : World} {ops : Array Oper} {rest : List Oper} {o : Oper} {a : Act} {Q : Exit → Act → World → Prop} (n : Nat) (hn : n ≤ 8) (hgd : o.guard = none) (l c : Operand) (ho : o.op = Op.makeSlice 23 l c) (hl : a.eval l = .int .i64 0) (hc : a.eval c = .int .i64 (n : Int))
    (h : ∀ w', OwnI w' w.heap.size (.slice (some ⟨w.heap.size, 0, none⟩) 0 n) [] → Below w.heap.size w w' → wpList Tryd.prog ops Q rest (a.put o.dst (.slice (some ⟨w.heap.size, 0, none⟩) 0 n)) w') : wpList Tryd.prog ops Q (o :: rest) a w := by
  obtain ⟨i0, hi, hz0, hz1, hz2⟩ := info_parts Tryd.info3
  exact wpList_make_own w hgd l c 23 ho w.heap.size 3 i0 (.int .i64 0) 1 Tryd.underlying23 hi hz0 hz1 .i64 .i64 _ n hl hc rfl (by rw [hz2]; omega) (by unfold maxLen; omega) (Nat.le_refl _) fun w' h1 h2 => h w' h1 ((Below.refl _ w).grown h2 (Nat.le_refl _) (by intro k hk; cases hk))
theorem wpList_pushG {ops : Array Oper} {rest : List Oper} {o : Oper} {a : Act} {Q : Exit → Act → World → Prop} {w0 : World} {v : Value} {L : List Int} (B : Nat) (w00 : World) (y : Int) (g : Nat) (hg : g = w0.heap.size) (hown : OwnI w0 B v L) (hgd : o.guard = none) (s x : Operand)
    (ho : o.op = .call { callee := .builtin .append, args := #[s, x], argTypes := #[23, 23] }) (hs : a.eval s = v)
    (hx : a.eval x = .slice (some ⟨g, 0, none⟩) 1 1) (hlen : L.length < 8796093022208) (hbel : Below B w00 w0) (hB : B ≤ w0.heap.size)
    (h : ∀ v' w', OwnI w' B v' (L ++ [y]) → Below B w00 w' → wpList Tryd.prog ops Q rest (a.put o.dst v') w') : wpList Tryd.prog ops Q (o :: rest) a (w0.alloc (.cells #[.int .i64 y] 3)) := by
  subst hg
  exact wpList_pushI B w00 y hown hgd s x ho hs hx hlen hbel hB h
set_option maxHeartbeats 1000000 in
theorem pwaiting_anyK {w : World} {g bm : Nat} {m : SendM} (h : PSend w g bm m) :
    Calls Tryd.prog 25 #[.pointer (some ⟨g, 0, none⟩)] w fun e w' => ∃ a c, e = .returned (.slice a (m.waitTo 8).length c) ∧ OwnI w' w.heap.size (.slice a (m.waitTo 8).length c) (m.waitTo 8) ∧ Below w.heap.size w w' := by
  have cm := h.map
  have hB := h.2.1
  have hn8 := SendM.busyN_le h.2.2.len
  go_enter Tryd.func25, Tryd.ntmps25
  go_wp2_with (first
    | (at_len; refine wpList_lenBlk _ rfl _ rfl rfl hB ?_)
    | (at_make; refine wpList_makeW m.busyN hn8 rfl _ _ rfl rfl rfl ?_; intro w1 ho1 hb1))
  go_loopw [3, 13] (fun v i wr => ∃ k : Nat, k ≤ 8 ∧ i = .int .i64 k ∧ OwnI wr w.heap.size v (m.waitTo k) ∧ Below w.heap.size w wr) (fun v i _ => 8 - (intOf i).toNat)
  case atStart => exact ⟨0, by omega, rfl, ho1, hb1⟩
  case round =>
    clear ho1 hb1
    obtain ⟨k, hk, rfl, ho, hb⟩ := hrel
    by_cases hlt : k < 8
    · have hP := h.old hb
      have cm := hP.map
      have hB := hP.2.1
      have hle := SendM.waitTo_len m k
      obtain ⟨T, eT⟩ : ∃ T, T = m.tat k := ⟨_, rfl⟩
      cases hT : (m.tat k).busy with
      | true =>
        have HB := hid hT
        have HW := hid (SendM.waitTo_yes hT)
        have HLE : Hid ((m.waitTo k).length < 8796093022208) := by show _ < _; omega
        have HV := hid (show (.agg #[.string T.data, .int .i64 T.tries, .bool T.opn] : Value) = if true then (m.tat k).blk else zeroBlk by rw [← eT]; rfl)
        have hbz : Below wr.heap.size wr (wr.alloc (.cells #[.string T.data, .int .i64 T.tries, .bool T.opn] 100)) := (Below.refl _ wr).alloc (Nat.le_refl _) _
        have hoz := ho.below hbz
        have hbz2 := hb.trans (hbz.mono hb.size)
        clear eT hT hP hle hbz
        go_wp2_with (first
          | (at_lookup; refine wpList_lookBlk _ rfl _ _ rfl rfl hB hlt rfl (.agg #[.string T.data, .int .i64 T.tries, .bool T.opn]) true HB.out HV.out ?_)
          | (at_builtin; refine wpList_pushG w.heap.size w (k : Int) (wr.heap.size + 1) (by simp) hoz rfl _ _ rfl rfl rfl HLE.out hbz2 hbz2.size ?_; intro v' w' ho' hb'))
        go_roundw
        case rel => exact ⟨k + 1, by omega, by go_num, by rw [HW.out]; exact ho', hb'⟩
        case measure => simp [intOf]; omega
      | false =>
        have HB := hid hT
        have HW := hid (SendM.waitTo_no hT)
        have HV := hid (show (.agg #[.string { data := #[] }, .int .i64 0, .bool false] : Value) = if false then (m.tat k).blk else zeroBlk from rfl)
        have hbz : Below wr.heap.size wr (wr.alloc (.cells #[.string { data := #[] }, .int .i64 0, .bool false] 100)) := (Below.refl _ wr).alloc (Nat.le_refl _) _
        have hoz := ho.below hbz
        have hbz2 := hb.trans (hbz.mono hb.size)
        clear eT hT hP hle hbz
        go_wp2_with (at_lookup; refine wpList_lookBlk _ rfl _ _ rfl rfl hB hlt rfl (.agg #[.string { data := #[] }, .int .i64 0, .bool false]) false HB.out HV.out ?_)
        go_roundw
        case rel => exact ⟨k + 1, by omega, by go_num, by rw [HW.out]; exact hoz, hbz2⟩
        case measure => simp [intOf]; omega
    · have e : k = 8 := by omega
      subst e
      go_wp2_with fail
      go_ret
      obtain ⟨a, c, rfl, _, _⟩ := OwnI.shape ho
      exact ⟨a, c, rfl, ho, hb⟩
end Go.Proofs.YtmdfjhnibhmdkafDoor
