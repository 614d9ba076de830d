import Derived.Test.YtbmdjfolfmgmmagGdJ
namespace Go.Proofs.Ytbmdjfolfmgmmag
open Go.ChangeShapes Go.WideShapes Go.ChangeAt Go.RowKit Go.Maps

/-! THE LAW GuardOnce: mathematics. -/

theorem cntG_near {f c : Nat} (h1 : f ≤ c + 2048) (h2 : c < f + 2048) : cntG f (((c % 4096 : Nat) : Int)) = (c : Int) := by
  unfold cntG
  split <;> omega
/-- A sender, a receiver, what came out; so many were sent. -/
structure GoM where
  sd : SdM
  rc : GcM
  out : List PktM
  n : Nat
def dAt (ds : List ByteArray) (i : Nat) : ByteArray := ds.getD i ByteArray.empty
structure GoOk (ds : List ByteArray) (k : Int) (m : GoM) : Prop where
  few : m.n ≤ 200
  have_ : m.n ≤ ds.length
  small : ∀ i, i < m.n → (dAt ds i).size ≤ 500
  skey : m.sd.key = k
  rkey : m.rc.key = k
  key : keyOk k = true
  beg : m.sd.beg ≤ m.rc.fst
  fst : m.rc.fst ≤ m.n
  nxt : m.sd.nxt = m.n
  wait : ∀ i, i < m.sd.wait.length → m.sd.wait.getD i ByteArray.empty = dAt ds (m.sd.beg + i)
  out : ∀ p ∈ m.out, ∃ c, c < m.n ∧ p = pktG k c (dAt ds c)
  map : ∀ c x, m.rc.M c = some x → c < m.n ∧ x = dAt ds c
  next : m.rc.M m.rc.fst = none
  olen : m.out.length ≤ m.n
theorem GoOk.new (ds : List ByteArray) {k : Int} (hk : keyOk k = true) : GoOk ds k ⟨.new k, .new k, [], 0⟩ :=
  ⟨Nat.zero_le _, Nat.zero_le _, fun i hi => absurd hi (Nat.not_lt_zero _), rfl, rfl, hk, Nat.le_refl _, Nat.le_refl _, rfl, fun i hi => absurd hi (by simp [SdM.new]), fun p hp => absurd hp (by simp), fun c x hx => (by cases hx), rfl, Nat.le_refl _⟩
/-- A packet that came out, at the receiver. -/
theorem GoOk.packet {ds : List ByteArray} {k : Int} {m : GoM} (h : GoOk ds k m) {c : Nat} (hc : c < m.n) :
    formOk (pktG k c (dAt ds c)) = true ∧ cntIn m.rc.fst (pktG k c (dAt ds c)).short = true ∧ m.rc.cnt (pktG k c (dAt ds c)) = c ∧ m.rc.opened (pktG k c (dAt ds c)) = dAt ds c ∧ (pktG k c (dAt ds c)).sl = sealG c (dAt ds c) := by
  have h1 := h.few
  have h2 := h.fst
  have h3 := h.small c hc
  have e1 : cntG m.rc.fst (pktG k c (dAt ds c)).short = (c : Int) := cntG_near (by omega) (by omega)
  have e2 : m.rc.cnt (pktG k c (dAt ds c)) = c := by unfold GcM.cnt; rw [e1]; exact Int.toNat_natCast c
  refine ⟨?_, ?_, e2, ?_, rfl⟩
  · unfold formOk
    have s1 : (pktG k c (dAt ds c)).sl.size = 3 := sealG_size _ _
    have s2 : (pktG k c (dAt ds c)).data.size = (dAt ds c).size := hidG_size _ _
    have s3 : (pktG k c (dAt ds c)).short = ((c % 4096 : Nat) : Int) := rfl
    rw [s1, s2, s3]
    simp
    omega
  · unfold cntIn
    rw [e1]
    simp
    omega
  · unfold GcM.opened
    rw [e2, h.rkey]
    exact hid_hidG _ _ h3
theorem take_dropG (ds : List ByteArray) (f : Nat) : ∀ k, f + k ≤ ds.length → ds.take f ++ (List.range k).map (fun i => dAt ds (f + i)) = ds.take (f + k)
  | 0, _ => by simp
  | k + 1, h => by
    have ih := take_dropG ds f k (by omega)
    rw [List.range_succ, List.map_append, ← List.append_assoc, ih, ← Nat.add_assoc, List.take_add_one]
    congr 1
    simp [dAt, List.getD, show f + k < ds.length by omega]
/-- A packet that is taken. -/
theorem GoOk.taken {ds : List ByteArray} {k : Int} {m : GoM} (h : GoOk ds k m) {p : PktM} {c : Nat} (hc : c < m.n) (e1 : m.rc.cnt p = c) (e2 : m.rc.opened p = dAt ds c) {n : Nat} (hn : RunG (m.rc.put p).M m.rc.fst n) :
    GoOk ds k ⟨m.sd, (m.rc.put p).cut n, m.out, m.n⟩ ∧ ds.take m.rc.fst ++ toldG (m.rc.put p).M m.rc.fst n = ds.take (m.rc.fst + n) ∧ m.rc.fst + n ≤ ds.length := by
  have hM : ∀ j x, (m.rc.put p).M j = some x → j < m.n ∧ x = dAt ds j := fun j x hx => by
    have hx' : updM m.rc.M (m.rc.cnt p) (some (m.rc.opened p)) j = some x := hx
    rw [e1, e2] at hx'
    by_cases e : j = c
    · subst e
      rw [updM_same] at hx'
      exact ⟨hc, (Option.some.inj hx').symm⟩
    · rw [updM_other _ _ e] at hx'
      exact h.map j x hx'
  have hle : m.rc.fst + n ≤ m.n := by
    rcases Nat.eq_zero_or_pos n with e | e
    · rw [e]; exact h.fst
    · obtain ⟨x, hx⟩ := Option.isSome_iff_exists.1 (hn.1 (n - 1) (by omega))
      have := (hM _ x hx).1
      omega
  have hle2 : m.rc.fst + n ≤ ds.length := Nat.le_trans hle h.have_
  refine ⟨⟨h.few, h.have_, h.small, h.skey, h.rkey, h.key, ?_, hle, h.nxt, h.wait, h.out, fun j x hx => ?_, ?_, h.olen⟩, ?_, hle2⟩
  · have := h.beg
    show m.sd.beg ≤ m.rc.fst + n
    omega
  · have hx' : cutM (m.rc.put p).M (m.rc.fst + n) j = some x := hx
    unfold cutM at hx'
    split at hx'
    · cases hx'
    · exact hM j x hx'
  · show cutM (m.rc.put p).M (m.rc.fst + n) (m.rc.fst + n) = none
    rw [cutM_at]
    exact hn.2
  · rw [← take_dropG ds m.rc.fst n hle2]
    congr 1
    unfold toldG
    refine List.map_congr_left fun i hi => ?_
    obtain ⟨x, hx⟩ := Option.isSome_iff_exists.1 (hn.1 i (List.mem_range.1 hi))
    rw [hx]
    exact (hM _ x hx).2
theorem GoOk.sent {ds : List ByteArray} {k : Int} {m : GoM} (h : GoOk ds k m) (h1 : m.n < 200) (h2 : m.n < ds.length) (h3 : (dAt ds m.n).size ≤ 500) :
    GoOk ds k ⟨m.sd.send (dAt ds m.n), m.rc, m.out ++ [pktG m.sd.key m.sd.nxt (dAt ds m.n)], m.n + 1⟩ := by
  have hn : m.sd.beg + m.sd.wait.length = m.n := h.nxt
  refine ⟨h1, h2, fun i hi => ?_, h.skey, h.rkey, h.key, h.beg, Nat.le_succ_of_le h.fst, ?_, fun i hi => ?_, fun p hp => ?_, fun c x hx => ?_, h.next, ?_⟩
  · have hi' : i < m.n + 1 := hi
    by_cases e : i = m.n
    · rw [e]; exact h3
    · exact h.small i (by omega)
  · show m.sd.beg + (m.sd.wait ++ [dAt ds m.n]).length = m.n + 1
    rw [List.length_append, List.length_singleton]
    omega
  · have hi' : i < (m.sd.wait ++ [dAt ds m.n]).length := hi
    rw [List.length_append, List.length_singleton] at hi'
    show (m.sd.wait ++ [dAt ds m.n]).getD i ByteArray.empty = dAt ds (m.sd.beg + i)
    rw [getD_snocG]
    split
    · rename_i e
      rw [e, hn]
    · exact h.wait i (by omega)
  · have hp' : p ∈ m.out ++ [pktG m.sd.key m.sd.nxt (dAt ds m.n)] := hp
    rcases List.mem_append.1 hp' with hp | hp
    · obtain ⟨c, hc, e⟩ := h.out p hp
      exact ⟨c, Nat.lt_succ_of_lt hc, e⟩
    · rw [List.mem_singleton, h.skey, h.nxt] at hp
      exact ⟨m.n, Nat.lt_succ_self _, hp⟩
  · obtain ⟨a, b⟩ := h.map c x hx
    exact ⟨Nat.lt_succ_of_lt a, b⟩
  · show (m.out ++ [pktG m.sd.key m.sd.nxt (dAt ds m.n)]).length ≤ m.n + 1
    rw [List.length_append, List.length_singleton]
    exact Nat.succ_le_succ h.olen
/-- What is confirmed: all that was told. -/
def SdM.upto (m : SdM) (f : Nat) : SdM := ⟨m.key, f, m.wait.drop (f - m.beg)⟩
theorem GoOk.moved {ds : List ByteArray} {k k' : Int} {m : GoM} (h : GoOk ds k m) (hk : keyOk k' = true) :
    GoOk ds k' ⟨(m.sd.upto m.rc.fst).move k', m.rc.move k', (m.sd.upto m.rc.fst).again k', m.n⟩ ∧ (m.sd.upto m.rc.fst).wait.length = m.n - m.rc.fst := by
  have hn : m.sd.beg + m.sd.wait.length = m.n := h.nxt
  have hb := h.beg
  have hf := h.fst
  have hl : (m.sd.upto m.rc.fst).wait.length = m.n - m.rc.fst := by
    show (m.sd.wait.drop (m.rc.fst - m.sd.beg)).length = _
    rw [List.length_drop]
    omega
  have hw : ∀ i, i < m.n - m.rc.fst → (m.sd.upto m.rc.fst).wait.getD i ByteArray.empty = dAt ds (m.rc.fst + i) := fun i hi => by
    show (m.sd.wait.drop (m.rc.fst - m.sd.beg)).getD i ByteArray.empty = _
    rw [getD_dropG, h.wait _ (by omega)]
    congr 1
    omega
  refine ⟨⟨h.few, h.have_, h.small, rfl, rfl, hk, Nat.le_refl _, hf, ?_, fun i hi => ?_, fun p hp => ?_, h.map, h.next, ?_⟩, hl⟩
  · show m.rc.fst + (m.sd.upto m.rc.fst).wait.length = m.n
    omega
  · exact hw i (by rw [← hl]; exact hi)
  · have hp' : p ∈ (List.range (m.sd.upto m.rc.fst).wait.length).map fun i => pktG k' ((m.sd.upto m.rc.fst).beg + i) ((m.sd.upto m.rc.fst).wait.getD i ByteArray.empty) := hp
    obtain ⟨i, hi, rfl⟩ := List.mem_map.1 hp'
    rw [List.mem_range, hl] at hi
    refine ⟨m.rc.fst + i, show m.rc.fst + i < m.n by omega, ?_⟩
    rw [hw i hi]
    rfl
  · show ((m.sd.upto m.rc.fst).again k').length ≤ m.n
    rw [SdM.again_length, hl]
    omega
end Go.Proofs.Ytbmdjfolfmgmmag
