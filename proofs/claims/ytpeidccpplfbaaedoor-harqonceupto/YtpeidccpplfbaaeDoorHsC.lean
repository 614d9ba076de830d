import Derived.Test.YtpeidccpplfbaaeDoorHsB
namespace Go.Proofs.YtpeidccpplfbaaeDoor
open Go.ChangeShapes Go.WideShapes Go.ChangeAt Go.RowKit Go.Maps

/-! THE PROGRAM'S find, least. -/

def zeroBlk : Value := .agg #[.string { data := #[] }, .int .i64 0, .bool false]
theorem BlkMap.alloc {w : World} {bm : Nat} {m : SendM} (h : BlkMap w bm m) (o : Obj) : BlkMap (w.alloc o) bm m := h.same (Below.heap_alloc w o bm h.lt)
theorem wpList_lookBlk (w : World) {ops : Array Oper} {rest : List Oper} {o : Oper} {a : Act} {Q : Exit → Act → World → Prop} (hg : o.guard = none) (mO x : Operand) (hop : o.op = Op.lookup 56 mO x true)
    {bm : Nat} {m : SendM} (hm : a.eval mO = .map (some bm)) (hB : BlkMap w bm m) {k : Nat} (hk : k < 8) (hx : a.eval x = .int .i64 (k : Int)) (v : Value) (b : Bool) (hb : (m.tat k).busy = b) (hv : v = if b then (m.tat k).blk else zeroBlk)
    (hK : wpList Tryd.prog ops Q rest (a.put o.dst (.tuple #[v, .bool b])) w) : wpList Tryd.prog ops Q (o :: rest) a w := by
  obtain ⟨D, ho, _, hD⟩ := hB
  refine wpList_lookup_own_ok w hg mO x 56 hop 3 62 Tryd.lawI Tryd.underlying56 heldElem (Tryd.zeroB w) (.held zeroBlk) [] rfl bm 8 D hm ho _ _ hx (keyI hk) (fun u ps hu => ?_)
  have h1 := held_inj hu
  rw [(hD k hk).1, hb]
  cases b with
  | true =>
    rw [(hD k hk).2 hb] at h1
    injection h1 with h1
    subst hv
    rw [if_pos rfl, h1] at hK
    exact hK
  | false =>
    rw [atKey_of_not_has (by rw [(hD k hk).1]; exact hb)] at h1
    injection h1 with h1
    subst hv
    rw [if_neg (by simp), h1] at hK
    exact hK

theorem kept_grownH {w w' : World} {b : Nat} {S : List Nat} (h : w.grownBy w' (some b)) (hb : b ∈ S) : Kept S w w' := ⟨h.os, h.tape, h.output, h.size, fun k hk hn => h.block k hk (fun e => hn (by injection e with e; rw [e]; exact hb))⟩
theorem wpList_putBlk (w : World) {ops : Array Oper} {rest : List Oper} {o : Oper} {a : Act} {Q : Exit → Act → World → Prop} (hg : o.guard = none) (mO x v : Operand) (hop : o.op = Op.mapUpdate 56 mO x v)
    {bm : Nat} {m : SendM} (hm : a.eval mO = .map (some bm)) (hB : BlkMap w bm m) (hlen : m.p.length = 8) {k : Nat} (hk : k < 8) (hx : a.eval x = .int .i64 (k : Int)) (t : TryM) (ht : t.busy = true) (hv : a.eval v = t.blk)
    (hK : ∀ w', BlkMap w' bm (m.set k t) → w.grownBy w' (some bm) → wpList Tryd.prog ops Q rest (a.put o.dst undef) w') : wpList Tryd.prog ops Q (o :: rest) a w := by
  obtain ⟨D, ho, hs, hD⟩ := hB
  exact wpList_mapUpdate_own w hg mO x v 56 hop 3 62 Tryd.lawI Tryd.underlying56 heldElem bm 8 D hm ho (by unfold maxLen; omega) _ _ _ hx hv (keyI hk) (.held t.blk) [] rfl (fun w' h1 h2 => hK w' (BlkMap.put hlen hk t ht ho hs hD h1) h2)
theorem run_putBlk {ρ : Operand → Value} (w : World) {o : Oper} (mO x v : Operand) (hop : o.op = Op.mapUpdate 56 mO x v)
    {bm : Nat} {m : SendM} (hm : ρ mO = .map (some bm)) (hB : BlkMap w bm m) (hlen : m.p.length = 8) {k : Nat} (hk : k < 8) (hx : ρ x = .int .i64 (k : Int)) (t : TryM) (ht : t.busy = true) (hv : ρ v = t.blk) :
    ∃ w', (execOp ρ o).run Tryd.prog w = .ok .skip w' ∧ BlkMap w' bm (m.set k t) ∧ w.grownBy w' (some bm) := by
  obtain ⟨D, ho, hs, hD⟩ := hB
  obtain ⟨w', hrun, h1, h2⟩ := ho.update Tryd.lawI Tryd.underlying56 (by unfold maxLen; omega) (keyI hk) (show heldElem t.blk = some (.held t.blk, []) from rfl)
  refine ⟨w', ?_, BlkMap.put hlen hk t ht ho hs hD h1, h2⟩
  simp [execOp, hop, hm, hx, hv, hrun, Result.andThen]
theorem op_putBlk {ops : Array Oper} {Q : Exit → Act → World → Prop} {i : Nat} {o : Oper} {a : Act} {w : World} {K : Act → World → Prop} (hi : ops[i]? = some o) (hg : o.guard = none) (mO x v : Operand) (hop : o.op = Op.mapUpdate 56 mO x v)
    {bm : Nat} {m : SendM} (hB : BlkMap w bm m) (hlen : m.p.length = 8) {k : Nat} (hk : k < 8) (t : TryM) (ht : t.busy = true) (hm : a.eval mO = .map (some bm)) (hx : a.eval x = .int .i64 (k : Int)) (hv : a.eval v = t.blk)
    (hK : ∀ w', BlkMap w' bm (m.set k t) → w.grownBy w' (some bm) → K (a.put o.dst undef) w') : wpOp Tryd.prog ops Q i K a w := by
  obtain ⟨w', hrun, h1, h2⟩ := run_putBlk w mO x v hop hm hB hlen hk hx t ht hv
  exact op_skipL hi hg hrun (hK w' h1 h2)
theorem wpList_delBlk (w : World) {ops : Array Oper} {rest : List Oper} {o : Oper} {a : Act} {Q : Exit → Act → World → Prop} (hg : o.guard = none) (mO x : Operand) (hop : o.op = Op.call { callee := Callee.builtin Builtin.delete, args := #[mO, x], argTypes := #[56, 3] })
    {bm : Nat} {m : SendM} (hm : a.eval mO = .map (some bm)) (hB : BlkMap w bm m) (hlen : m.p.length = 8) {k : Nat} (hk : k < 8) (hx : a.eval x = .int .i64 (k : Int)) (t : TryM) (ht : t.busy = false)
    (hK : ∀ w', BlkMap w' bm (m.set k t) → w.grownBy w' (some bm) → wpList Tryd.prog ops Q rest (a.put o.dst (.tuple #[])) w') : wpList Tryd.prog ops Q (o :: rest) a w := by
  obtain ⟨D, ho, hs, hD⟩ := hB
  exact wpList_delete_own w hg mO x 56 3 hop 62 Tryd.lawI Tryd.underlying56 heldElem bm 8 D hm ho _ _ hx (keyI hk) (fun w' h1 h2 => hK w' (BlkMap.del hlen hk t ht ho hs hD h1) h2.grown)

set_option maxHeartbeats 1000000 in
theorem pfind_bad {w : World} {g : Nat} (p : Int) (hp : procErr p = 1) :
    Calls Tryd.prog 18 #[.pointer (some ⟨g, 0, none⟩), .int .i64 p] w fun e w' => e = .returned (.tuple #[zeroBlk, .int .i64 1]) ∧ Below w.heap.size w w' := by
  have hcp := fun wz => pcheckProcess_any p wz
  rw [hp] at hcp
  clear hp
  go_enter Tryd.func18, Tryd.ntmps18
  go_wp2_with (go_at_call 20; refine (hcp _).mono ?_; rintro e w1 ⟨rfl, rfl⟩)
  (try simp only [Exit.inBlock, Exit.then])
  refine bodyPost_ret (v := .tuple #[zeroBlk, .int .i64 1]) ?_ rfl ⟨rfl, ?_⟩
  · rw [results_cell_tmp rfl]
    unfold zeroBlk
    go_simp
  · exact ((Below.refl _ w).alloc (Nat.le_refl _) _)

set_option maxHeartbeats 1000000 in
theorem pfind_any {w : World} {g bm : Nat} {m : SendM} (h : PSend w g bm m) (k : Nat) (hk : k < 8) (b : Bool) (v : Value) (er : Int) (hb : (m.tat k).busy = b) (hv : v = if b then (m.tat k).blk else zeroBlk) (he : er = if b then 0 else 6) :
    Calls Tryd.prog 18 #[.pointer (some ⟨g, 0, none⟩), .int .i64 (k : Int)] w fun e w' => e = .returned (.tuple #[v, .int .i64 er]) ∧ Below w.heap.size w w' := by
  have hcp := fun wz => pcheckProcess_any (k : Int) wz
  rw [show procErr (k : Int) = 0 by unfold procErr; rw [if_pos (by omega)]] at hcp
  have hb0 : Below w.heap.size w (w.alloc (.cells #[.string { data := #[] }, .int .i64 0, .bool false] 62)) := (Below.refl _ w).alloc (Nat.le_refl _) _
  have cm := cellOld hb0 h.map
  have hB := h.2.1
  have HB := hid hb
  have HV := hid hv
  cases b with
  | false =>
    obtain rfl : er = 6 := by simpa using he
    obtain rfl : v = zeroBlk := by simpa using hv
    clear he hb hv
    unfold zeroBlk at *
    go_enter Tryd.func18, Tryd.ntmps18
    go_wp2_with (first
      | (go_at_call 20; refine (hcp _).mono ?_; rintro e w1 ⟨rfl, rfl⟩)
      | (at_lookup; refine wpList_lookBlk _ rfl _ _ rfl rfl (hB.alloc _) hk rfl _ _ HB.out HV.out ?_))
    (try simp only [Exit.inBlock, Exit.then])
    refine bodyPost_ret (v := .tuple #[zeroBlk, .int .i64 6]) ?_ rfl ⟨rfl, ?_⟩
    · rw [results_cell_tmp rfl]
      unfold zeroBlk
      go_simp
    · exact hb0.alloc (by simp) _
  | true =>
    obtain rfl : er = 0 := by simpa using he
    obtain ⟨T, eT⟩ : ∃ T, T = m.tat k := ⟨_, rfl⟩
    rw [← eT, if_pos rfl] at hv
    subst hv
    have HT := hid (show (.agg #[.string T.data, .int .i64 T.tries, .bool T.opn] : Value) = if true then (m.tat k).blk else zeroBlk by rw [← eT]; rfl)
    clear he hb HV eT
    unfold TryM.blk
    go_enter Tryd.func18, Tryd.ntmps18
    go_wp2_with (first
      | (go_at_call 20; refine (hcp _).mono ?_; rintro e w1 ⟨rfl, rfl⟩)
      | (at_lookup; refine wpList_lookBlk _ rfl _ _ rfl rfl (hB.alloc _) hk rfl (.agg #[.string T.data, .int .i64 T.tries, .bool T.opn]) true HB.out HT.out ?_))
    (try simp only [Exit.inBlock, Exit.then])
    refine bodyPost_ret (v := .tuple #[.agg #[.string T.data, .int .i64 T.tries, .bool T.opn], .int .i64 0]) ?_ rfl ⟨rfl, ?_⟩
    · rw [results_cell_tmp rfl]
      go_simp
    · exact ((Below.refl _ w).alloc (Nat.le_refl _) _).alloc (by simp) _

set_option maxHeartbeats 1000000 in
theorem pleast_any {w : World} {g bm : Nat} {m : SendM} (h : PSend w g bm m) :
    Calls Tryd.prog 17 #[.pointer (some ⟨g, 0, none⟩)] w fun e w' => e = .returned (.int .i64 (m.least : Int)) ∧ Below w.heap.size w w' := by
  have hlen := h.2.2.len
  go_enter Tryd.func17, Tryd.ntmps17
  go_wp2_with fail
  go_loopw [6] (fun i wr => ∃ k : Nat, k ≤ 8 ∧ i = .int .i64 k ∧ (∀ j, j < k → (m.tat j).busy = true) ∧ Below w.heap.size w wr) (fun i _ => 8 - (intOf i).toNat)
  case atStart => exact ⟨0, by omega, rfl, fun j hj => by omega, Below.refl _ w⟩
  case round =>
    obtain ⟨k, hk, rfl, hbs, hb⟩ := hrel
    by_cases hlt : k < 8
    · have hP := h.old hb
      have cm := hP.map
      have hB := hP.2.1
      obtain ⟨T, eT⟩ : ∃ T, T = m.tat k := ⟨_, rfl⟩
      cases hT : (m.tat k).busy with
      | true =>
        have HB := hid hT
        have HBS := hid hbs
        have HV := hid (show (.agg #[.string T.data, .int .i64 T.tries, .bool T.opn] : Value) = if true then (m.tat k).blk else zeroBlk by rw [← eT]; rfl)
        clear eT hT hP hbs
        go_wp2_with (at_lookup; refine wpList_lookBlk _ rfl _ _ rfl rfl hB hlt rfl (.agg #[.string T.data, .int .i64 T.tries, .bool T.opn]) true HB.out HV.out ?_)
        go_roundw
        case rel => exact ⟨k + 1, by omega, by go_num, fun j hj => by
          by_cases e : j = k
          · subst e; exact HB.out
          · exact HBS.out j (by omega), hb.alloc hb.size _⟩
        case measure => simp [intOf]; omega
      | false =>
        have HB := hid hT
        have HL := hid (SendM.least_eq hlen hlt hbs hT)
        have HV := hid (show (.agg #[.string { data := #[] }, .int .i64 0, .bool false] : Value) = if false then (m.tat k).blk else zeroBlk from rfl)
        clear eT hT hP hbs
        go_wp2_with (at_lookup; refine wpList_lookBlk _ rfl _ _ rfl rfl hB hlt rfl (.agg #[.string { data := #[] }, .int .i64 0, .bool false]) false HB.out HV.out ?_)
        go_ret
        rw [HL.out]
        exact ⟨rfl, hb.alloc hb.size _⟩
    · have e : k = 8 := by omega
      subst e
      have HL := hid (SendM.least_none hlen hbs)
      clear hbs
      go_wp2_with fail
      go_ret
      rw [HL.out]
      exact ⟨rfl, hb⟩

end Go.Proofs.YtpeidccpplfbaaeDoor
