import Derived.Test.YtbmdjfolfmgmmagK15
namespace Go.Proofs.Ytbmdjfolfmgmmag
open Go.ChangeShapes Go.WideShapes Go.ChangeAt Go.RowKit
theorem rkey_any (k : Int) (w : World) : Calls Try.prog 7 #[.int .i64 k] w fun e w' => e = .returned (.bool (keyOk k)) ∧ w = w' := by
  by_cases h1 : 0 ≤ k
  · by_cases h2 : k ≤ 2147483647
    · have H := hid (show keyOk k = true by unfold keyOk; simp [h1, h2])
      go_enter Try.func7, Try.ntmps7
      go_wp2
      go_ret
      exact ⟨by rw [H.out]; simp, rfl⟩
    · have H := hid (show keyOk k = false by unfold keyOk; simp [h2])
      go_enter Try.func7, Try.ntmps7
      go_wp2
      go_ret
      exact ⟨by rw [H.out]; simp, rfl⟩
  · have H := hid (show keyOk k = false by unfold keyOk; simp [h1])
    go_enter Try.func7, Try.ntmps7
    go_wp2
    go_ret
    exact ⟨by rw [H.out]; simp, rfl⟩
set_option maxHeartbeats 1000000 in
theorem wholeG_any (s : ByteArray) (w : World) (hm : s.size ≤ 1000000) :
    Calls Try.prog 41 #[.string s] w fun e w' => ∃ v, e = .returned v ∧ Own w' w.heap.size v (unpackTo s (8 * s.size)) ∧ Below w.heap.size w w' := by
  obtain ⟨N, eN⟩ : ∃ N, N = 8 * s.size := ⟨_, rfl⟩
  rw [← eN]
  have hN : (8 : Int) * (s.size : Int) = (N : Int) := by rw [eN]; omega
  have HN := hid eN
  have hNb : N ≤ 8000000 := by omega
  clear eN
  go_enter Try.func41, Try.ntmps41
  go_wp2_with fail
  go_loopw [3, 4] (fun v i wr => ∃ k : Nat, k ≤ N ∧ i = .int .i64 k ∧ Own wr w.heap.size v (unpackTo s k) ∧ Below w.heap.size w wr) (fun _ i _ => N - (intOf i).toNat)
  case atStart => exact ⟨0, Nat.zero_le _, rfl, Own.nil _ _, Below.refl _ _⟩
  case round =>
    obtain ⟨k, hk, rfl, hown, hbel⟩ := hrel
    have HL := hid (unpackTo_length s k)
    by_cases hlt : k < N
    · have hk8 : k / 8 < s.size := by have := HN.out; omega
      go_wp2_with (first | (go_at_call 54; refine (bitat_any s k _ hk8 (by omega)).mono ?_; rintro e w' ⟨rfl, rfl⟩) | (at_builtin; go_must (refine wpList_push w.heap.size w (bitAt s k) hown rfl _ _ rfl rfl rfl ?_ hbel ?_ ?_)))
      · rw [HL.out]; omega
      · exact hbel.size
      · intro v' w1 hown' hbel'
        rw [← unpackTo_succ] at hown'
        clear hown hbel
        go_wp2
        go_roundw
        case rel => exact ⟨k + 1, by omega, by go_num, hown', hbel'⟩
        case measure => simp [intOf]; omega
    · obtain rfl : k = N := by omega
      go_wp2_with fail
      go_ret
      exact ⟨_, rfl, hown, hbel⟩
theorem rcovered_any (d : ByteArray) (k : Int) (c : Nat) (w : World) (hd : d.size ≤ 500) (hk : 0 ≤ k ∧ k < 2147483648) (hc : c ≤ 33554432) :
    Calls Try.prog 31 #[.string d, .int .i64 k, .int .i64 (c : Int)] w fun e w' => e = .returned (.string (hidG d (seedG k c))) ∧ Below w.heap.size w w' := by
  have cB := fun wz => wholeG_any d wz (by omega)
  have hs := seedG_lt k c
  have hse := seedG_eq k c
  have H := hid (show strOfNums (packL (addTo (unpackTo d (8 * d.size)) (noiseTo (seedG k c) (8 * d.size)) (8 * d.size))) = hidG d (seedG k c) from rfl)
  have hl : (unpackTo d (8 * d.size)).length = 8 * d.size := unpackTo_length _ _
  have hbt := unpack_bitsG d (8 * d.size)
  obtain ⟨R, eR⟩ : ∃ R, R = hidG d (seedG k c) := ⟨_, rfl⟩
  obtain ⟨S, eS⟩ : ∃ S, S = seedG k c := ⟨_, rfl⟩
  obtain ⟨L, eL⟩ : ∃ L, L = unpackTo d (8 * d.size) := ⟨_, rfl⟩
  obtain ⟨n, en⟩ : ∃ n, n = 8 * d.size := ⟨_, rfl⟩
  rw [← eL] at cB hl hbt H
  rw [← eS] at hs H hse
  rw [← eS] at eR
  rw [← eR] at H
  have hn : n ≤ 4000 := by omega
  rw [← en] at hl H
  rw [show hidG d (seedG k c) = R by rw [eR, eS]]
  have cN := fun wz => rnoise_any S n wz hs (by omega)
  have hnl := noiseTo_length S n
  have hnb := noise_bits S n
  have cA := fun a b ca cb wz ha hb => added_any L (noiseTo S n) a b ca cb n wz ha hb hbt hnb hnl (by omega) (by omega)
  rw [hl] at cA
  have cP := fun a cp wz hr => rpack_ok (addTo L (noiseTo S n) n) a cp wz hr (add_bitsG _ _ _) (by rw [addTo_length]; omega)
  rw [addTo_length, H.out] at cP
  have hse' : (k + 48271 * (c : Int) + 12345) % 2147483648 = (S : Int) := hse.symm
  have hkc : 0 ≤ k + 48271 * (c : Int) + 12345 := by omega
  clear eR eS eL en hd hse
  go_enter Try.func31, Try.ntmps31
  go_wp2_with (first | (go_at_call 41; refine (cB _).mono ?_; rintro e w1 ⟨v1, rfl, hO1, hb1⟩; obtain ⟨a1, c1, rfl, -, -⟩ := hO1.shape; rw [hl]))
  refine (cN _).mono ?_
  rintro e w2 ⟨v2, rfl, hO2, hb2⟩
  obtain ⟨a2, c2, rfl, -, -⟩ := hO2.shape
  rw [hnl]
  go_wp2_with fail
  refine (cA a1 a2 c1 c2 _ (hO1.rd.below hb2) hO2.rd).mono ?_
  rintro e w3 ⟨v3, rfl, hO3, hb3⟩
  obtain ⟨a3, c3, rfl, -, -⟩ := hO3.shape
  rw [addTo_length]
  go_wp2_with fail
  refine (cP a3 c3 _ hO3.rd).mono ?_
  rintro e w4 ⟨rfl, hb4⟩
  go_wp2
  go_ret
  exact ⟨rfl, bthen hb1 (bthen hb2 (bthen hb3 hb4))⟩
set_option maxRecDepth 100000 in
theorem rsealing_any (d : ByteArray) (c : Nat) (w : World) (hd : d.size ≤ 500) (hc : c < 16777216) :
    Calls Try.prog 32 #[.string d, .int .i64 (c : Int)] w fun e w' => e = .returned (.string (sealG c d)) ∧ Below w.heap.size w w' := by
  have hsz : (headG c ++ d).size = 3 + d.size := by rw [ByteArray.size_append, headG_size]
  have cB := fun wz => wholeG_any (headG c ++ d) wz (by omega)
  rw [hsz] at cB
  have H := hid (show strOfNums (packL (ksum (unpackTo (headG c ++ d) (8 * (3 + d.size))) 3)) = sealG c d from rfl)
  have hl : (unpackTo (headG c ++ d) (8 * (3 + d.size))).length = 8 * (3 + d.size) := unpackTo_length _ _
  have hh := headG_size c
  have hbt := unpack_bitsG (headG c ++ d) (8 * (3 + d.size))
  obtain ⟨R, eR⟩ : ∃ R, R = sealG c d := ⟨_, rfl⟩
  obtain ⟨L, eL⟩ : ∃ L, L = unpackTo (headG c ++ d) (8 * (3 + d.size)) := ⟨_, rfl⟩
  obtain ⟨n, en⟩ : ∃ n, n = 8 * (3 + d.size) := ⟨_, rfl⟩
  rw [← eL] at cB hl hbt H
  rw [← eR] at H ⊢
  have hn : n ≤ 4024 := by omega
  rw [← en] at hl
  clear eR eL en
  have cC := fun a cp wz hr => rsum_any L 3 a cp wz hr hbt (by omega) isKind3G
  rw [hl, kW3G] at cC
  have cP := fun a cp wz hr => rpack_ok (ksum L 3) a cp wz hr (ksum_bitsG _ _) (by rw [ksum3_len]; omega)
  rw [ksum3_len, H.out] at cP
  have hq1 : (c : Int) / 65536 % 256 = (c : Int) / 65536 := by omega
  have hcv := fun wz => conv_three ((c : Int) / 65536) ((c : Int) / 256 % 256) ((c : Int) % 256) wz
  rw [show strOfNums [(c : Int) / 65536, (c : Int) / 256 % 256, (c : Int) % 256] = headG c by unfold headG; rw [hq1]] at hcv
  go_enter Try.func32, Try.ntmps32
  go_wp2_with (go_at_call 41; refine (cB _).mono ?_; rintro e w1 ⟨v1, rfl, hO1, hb1⟩; obtain ⟨a1, c1, rfl, -, -⟩ := hO1.shape; rw [hl])
  refine (cC a1 c1 _ hO1.rd).mono ?_
  rintro e w2 ⟨b2, o2, c2, rfl, hR2, hb2⟩
  go_wp2_with fail
  refine (cP _ c2 _ hR2).mono ?_
  rintro e w3 ⟨rfl, hb3⟩
  go_wp2
  go_ret
  exact ⟨rfl, bthen ((Below.refl _ _).alloc (Nat.le_refl _) _) (bthen hb1 (bthen hb2 hb3))⟩
end Go.Proofs.Ytbmdjfolfmgmmag
namespace Go.Proofs.Ytbmdjfolfmgmmag
open Go.ChangeShapes Go.WideShapes Go.ChangeAt Go.RowKit Go.Maps
theorem cntG_near {f c : Nat} (h1 : f ≤ c + 2048) (h2 : c < f + 2048) : cntG f (((c % 4096 : Nat) : Int)) = (c : Int) := by
  unfold cntG
  split <;> omega
/-- A sender, a receiver, what came out; so many were sent. -/
structure GoM where
  sd : SdM
  rc : GcM
  out : List PktM
  n : Nat
def dAt (ds : List ByteArray) (i : Nat) : ByteArray := ds.getD i ByteArray.empty
structure GoOk (ds : List ByteArray) (k : Int) (m : GoM) : Prop where
  few : m.n ≤ 200
  have_ : m.n ≤ ds.length
  small : ∀ i, i < m.n → (dAt ds i).size ≤ 500
  skey : m.sd.key = k
  rkey : m.rc.key = k
  key : keyOk k = true
  beg : m.sd.beg ≤ m.rc.fst
  fst : m.rc.fst ≤ m.n
  nxt : m.sd.nxt = m.n
  wait : ∀ i, i < m.sd.wait.length → m.sd.wait.getD i ByteArray.empty = dAt ds (m.sd.beg + i)
  out : ∀ p ∈ m.out, ∃ c, c < m.n ∧ p = pktG k c (dAt ds c)
  map : ∀ c x, m.rc.M c = some x → c < m.n ∧ x = dAt ds c
  next : m.rc.M m.rc.fst = none
  olen : m.out.length ≤ m.n
theorem GoOk.new (ds : List ByteArray) {k : Int} (hk : keyOk k = true) : GoOk ds k ⟨.new k, .new k, [], 0⟩ :=
  ⟨Nat.zero_le _, Nat.zero_le _, fun i hi => absurd hi (Nat.not_lt_zero _), rfl, rfl, hk, Nat.le_refl _, Nat.le_refl _, rfl, fun i hi => absurd hi (by simp [SdM.new]), fun p hp => absurd hp (by simp), fun c x hx => (by cases hx), rfl, Nat.le_refl _⟩
/-- A packet that came out, at the receiver. -/
theorem GoOk.packet {ds : List ByteArray} {k : Int} {m : GoM} (h : GoOk ds k m) {c : Nat} (hc : c < m.n) :
    formOk (pktG k c (dAt ds c)) = true ∧ cntIn m.rc.fst (pktG k c (dAt ds c)).short = true ∧ m.rc.cnt (pktG k c (dAt ds c)) = c ∧ m.rc.opened (pktG k c (dAt ds c)) = dAt ds c ∧ (pktG k c (dAt ds c)).sl = sealG c (dAt ds c) := by
  have h1 := h.few
  have h2 := h.fst
  have h3 := h.small c hc
  have e1 : cntG m.rc.fst (pktG k c (dAt ds c)).short = (c : Int) := cntG_near (by omega) (by omega)
  have e2 : m.rc.cnt (pktG k c (dAt ds c)) = c := by unfold GcM.cnt; rw [e1]; exact Int.toNat_natCast c
  refine ⟨?_, ?_, e2, ?_, rfl⟩
  · unfold formOk
    have s1 : (pktG k c (dAt ds c)).sl.size = 3 := sealG_size _ _
    have s2 : (pktG k c (dAt ds c)).data.size = (dAt ds c).size := hidG_size _ _
    have s3 : (pktG k c (dAt ds c)).short = ((c % 4096 : Nat) : Int) := rfl
    rw [s1, s2, s3]
    simp
    omega
  · unfold cntIn
    rw [e1]
    simp
    omega
  · unfold GcM.opened
    rw [e2, h.rkey]
    exact hid_hidG _ _ h3
theorem take_dropG (ds : List ByteArray) (f : Nat) : ∀ k, f + k ≤ ds.length → ds.take f ++ (List.range k).map (fun i => dAt ds (f + i)) = ds.take (f + k)
  | 0, _ => by simp
  | k + 1, h => by
    have ih := take_dropG ds f k (by omega)
    rw [List.range_succ, List.map_append, ← List.append_assoc, ih, ← Nat.add_assoc, List.take_add_one]
    congr 1
    simp [dAt, List.getD, show f + k < ds.length by omega]
/-- A packet that is taken. -/
theorem GoOk.taken {ds : List ByteArray} {k : Int} {m : GoM} (h : GoOk ds k m) {p : PktM} {c : Nat} (hc : c < m.n) (e1 : m.rc.cnt p = c) (e2 : m.rc.opened p = dAt ds c) {n : Nat} (hn : RunG (m.rc.put p).M m.rc.fst n) :
    GoOk ds k ⟨m.sd, (m.rc.put p).cut n, m.out, m.n⟩ ∧ ds.take m.rc.fst ++ toldG (m.rc.put p).M m.rc.fst n = ds.take (m.rc.fst + n) ∧ m.rc.fst + n ≤ ds.length := by
  have hM : ∀ j x, (m.rc.put p).M j = some x → j < m.n ∧ x = dAt ds j := fun j x hx => by
    have hx' : updM m.rc.M (m.rc.cnt p) (some (m.rc.opened p)) j = some x := hx
    rw [e1, e2] at hx'
    by_cases e : j = c
    · subst e
      rw [updM_same] at hx'
      exact ⟨hc, (Option.some.inj hx').symm⟩
    · rw [updM_other _ _ e] at hx'
      exact h.map j x hx'
  have hle : m.rc.fst + n ≤ m.n := by
    rcases Nat.eq_zero_or_pos n with e | e
    · rw [e]; exact h.fst
    · obtain ⟨x, hx⟩ := Option.isSome_iff_exists.1 (hn.1 (n - 1) (by omega))
      have := (hM _ x hx).1
      omega
  have hle2 : m.rc.fst + n ≤ ds.length := Nat.le_trans hle h.have_
  refine ⟨⟨h.few, h.have_, h.small, h.skey, h.rkey, h.key, ?_, hle, h.nxt, h.wait, h.out, fun j x hx => ?_, ?_, h.olen⟩, ?_, hle2⟩
  · have := h.beg
    show m.sd.beg ≤ m.rc.fst + n
    omega
  · have hx' : cutM (m.rc.put p).M (m.rc.fst + n) j = some x := hx
    unfold cutM at hx'
    split at hx'
    · cases hx'
    · exact hM j x hx'
  · show cutM (m.rc.put p).M (m.rc.fst + n) (m.rc.fst + n) = none
    rw [cutM_at]
    exact hn.2
  · rw [← take_dropG ds m.rc.fst n hle2]
    congr 1
    unfold toldG
    refine List.map_congr_left fun i hi => ?_
    obtain ⟨x, hx⟩ := Option.isSome_iff_exists.1 (hn.1 i (List.mem_range.1 hi))
    rw [hx]
    exact (hM _ x hx).2
theorem GoOk.sent {ds : List ByteArray} {k : Int} {m : GoM} (h : GoOk ds k m) (h1 : m.n < 200) (h2 : m.n < ds.length) (h3 : (dAt ds m.n).size ≤ 500) :
    GoOk ds k ⟨m.sd.send (dAt ds m.n), m.rc, m.out ++ [pktG m.sd.key m.sd.nxt (dAt ds m.n)], m.n + 1⟩ := by
  have hn : m.sd.beg + m.sd.wait.length = m.n := h.nxt
  refine ⟨h1, h2, fun i hi => ?_, h.skey, h.rkey, h.key, h.beg, Nat.le_succ_of_le h.fst, ?_, fun i hi => ?_, fun p hp => ?_, fun c x hx => ?_, h.next, ?_⟩
  · have hi' : i < m.n + 1 := hi
    by_cases e : i = m.n
    · rw [e]; exact h3
    · exact h.small i (by omega)
  · show m.sd.beg + (m.sd.wait ++ [dAt ds m.n]).length = m.n + 1
    rw [List.length_append, List.length_singleton]
    omega
  · have hi' : i < (m.sd.wait ++ [dAt ds m.n]).length := hi
    rw [List.length_append, List.length_singleton] at hi'
    show (m.sd.wait ++ [dAt ds m.n]).getD i ByteArray.empty = dAt ds (m.sd.beg + i)
    rw [getD_snocG]
    split
    · rename_i e
      rw [e, hn]
    · exact h.wait i (by omega)
  · have hp' : p ∈ m.out ++ [pktG m.sd.key m.sd.nxt (dAt ds m.n)] := hp
    rcases List.mem_append.1 hp' with hp | hp
    · obtain ⟨c, hc, e⟩ := h.out p hp
      exact ⟨c, Nat.lt_succ_of_lt hc, e⟩
    · rw [List.mem_singleton, h.skey, h.nxt] at hp
      exact ⟨m.n, Nat.lt_succ_self _, hp⟩
  · obtain ⟨a, b⟩ := h.map c x hx
    exact ⟨Nat.lt_succ_of_lt a, b⟩
  · show (m.out ++ [pktG m.sd.key m.sd.nxt (dAt ds m.n)]).length ≤ m.n + 1
    rw [List.length_append, List.length_singleton]
    exact Nat.succ_le_succ h.olen
/-- What is confirmed: all that was told. -/
def SdM.upto (m : SdM) (f : Nat) : SdM := ⟨m.key, f, m.wait.drop (f - m.beg)⟩
end Go.Proofs.Ytbmdjfolfmgmmag
namespace Go.Proofs.Ytbmdjfolfmgmmag
open Go.ChangeShapes Go.WideShapes Go.ChangeAt Go.RowKit Go.Maps
def ownB (v : Value) : List Nat := v.ownBlock.toList
structure Gu (w wr : World) (gs gr bm : Nat) (vs vo vt : Value) (sd : SdM) (rc : GcM) (out : List PktM) (tl : List ByteArray) : Prop where
  bel : Below w.heap.size w wr
  sd : PSd wr gs vs sd
  rc : PGc wr gr bm rc
  out : wr.ownsRow w.heap.size 43 3 vo out.length (cellsPk out)
  tld : wr.ownsRow w.heap.size 9 1 vt tl.length (tl.map Value.string)
  nws : ∀ x ∈ sdF gs vs, w.heap.size ≤ x
  nwr : ∀ x ∈ gcF gr bm, w.heap.size ≤ x
  ap1 : ∀ x ∈ sdF gs vs, x ∉ gcF gr bm
  ap2 : ∀ x ∈ ownB vo, x ∉ sdF gs vs ∧ x ∉ gcF gr bm
  ap3 : ∀ x ∈ ownB vt, x ∉ sdF gs vs ∧ x ∉ gcF gr bm ∧ x ∉ ownB vo
theorem row_new {w : World} {B n k : Nat} {T : TypeId} {v : Value} {xs : List Value} (h : w.ownsRow B T k v n xs) : ∀ x ∈ ownB v, B ≤ x ∧ x < w.heap.size := fun x hx => World.ownsRow.lt h x (by simpa [ownB] using hx)
theorem row_kept {w w' : World} {B n k : Nat} {T : TypeId} {v : Value} {xs : List Value} {S : List Nat} (h : w.ownsRow B T k v n xs) (hk : Kept S w w') (hn : ∀ x ∈ ownB v, x ∉ S) : w'.ownsRow B T k v n xs := keptRow h hk (fun g hg => hn g (by simp [ownB, hg]))
theorem below_keptG {w wr w' : World} {S : List Nat} (h : Below w.heap.size w wr) (hk : Kept S wr w') (hs : ∀ x ∈ S, w.heap.size ≤ x) : Below w.heap.size w w' :=
  ⟨hk.os.trans h.os, hk.tape.trans h.tape, hk.output.trans h.output, Nat.le_trans h.size hk.size, fun i hi => (hk.block i (Nat.lt_of_lt_of_le hi h.size) (fun e => by have := hs i e; omega)).trans (h.block i hi)⟩
theorem Gu.below {w wr : World} {gs gr bm : Nat} {vs vo vt : Value} {sd : SdM} {rc : GcM} {out : List PktM} {tl : List ByteArray} (h : Gu w wr gs gr bm vs vo vt sd rc out tl) {w' : World} (hb : Below wr.heap.size wr w') : Gu w w' gs gr bm vs vo vt sd rc out tl :=
  ⟨bthen h.bel hb, h.sd.kept (S := []) (Kept.of_below hb) (by simp), h.rc.kept (S := []) (Kept.of_below hb) (by simp), row_kept h.out (S := []) (Kept.of_below hb) (by simp), row_kept h.tld (S := []) (Kept.of_below hb) (by simp), h.nws, h.nwr, h.ap1, h.ap2, h.ap3⟩
theorem Gu.stepS {w wr : World} {gs gr bm : Nat} {vs vo vt : Value} {sd : SdM} {rc : GcM} {out : List PktM} {tl : List ByteArray} (h : Gu w wr gs gr bm vs vo vt sd rc out tl) {w' : World} {vs' : Value} {sd' : SdM} (hk : Kept (sdF gs vs) wr w') (hP : PSd w' gs vs' sd') (hg : Grown wr.heap.size (blkG vs) (blkG vs')) : Gu w w' gs gr bm vs' vo vt sd' rc out tl := by
  have hf : ∀ x ∈ sdF gs vs', x ∈ sdF gs vs ∨ wr.heap.size ≤ x := fun x hx => by
    rcases List.mem_cons.1 hx with rfl | hx
    · exact .inl List.mem_cons_self
    · rcases hg x hx with hx | hx
      · exact .inl (List.mem_cons_of_mem _ hx)
      · exact .inr hx
  have h1 := h.rc.lt
  have h2 := row_new h.out
  have h3 := row_new h.tld
  have hs := h.bel.size
  refine ⟨below_keptG h.bel hk h.nws, hP, h.rc.kept hk (fun x hx e => h.ap1 x e hx), row_kept h.out hk (fun x hx => (h.ap2 x hx).1), row_kept h.tld hk (fun x hx => (h.ap3 x hx).1), fun x hx => ?_, h.nwr, fun x hx e => ?_, fun x hx => ⟨fun e => ?_, (h.ap2 x hx).2⟩, fun x hx => ⟨fun e => ?_, (h.ap3 x hx).2⟩⟩
  · rcases hf x hx with hx | hx
    · exact h.nws x hx
    · omega
  · rcases hf x hx with hx | hx
    · exact h.ap1 x hx e
    · have := h1 x e; omega
  · rcases hf x e with e | e
    · exact (h.ap2 x hx).1 e
    · have := h2 x hx; omega
  · rcases hf x e with e | e
    · exact (h.ap3 x hx).1 e
    · have := h3 x hx; omega
/-- Confirm of all that was told. -/
theorem Gu.confirm {w wr : World} {gs gr bm : Nat} {vs vo vt : Value} {sd : SdM} {rc : GcM} {out : List PktM} {tl : List ByteArray} (h : Gu w wr gs gr bm vs vo vt sd rc out tl) (h1 : sd.beg ≤ rc.fst) (h2 : rc.fst ≤ sd.nxt) :
    Calls Try.prog 10 #[.pointer (some ⟨gs, 0, none⟩), .int .i64 ((rc.fst : Int) - 1)] wr fun e w' => ∃ x vs', e = .returned (.int .i64 x) ∧ Gu w w' gs gr bm vs' vo vt (sd.upto rc.fst) rc out tl := by
  rcases Nat.eq_zero_or_pos rc.fst with h0 | h0
  · have e : sd.upto rc.fst = sd := by
      unfold SdM.upto
      have hb : sd.beg = 0 := by omega
      cases sd
      simp only at hb
      rw [h0, hb]
      rfl
    rw [e]
    refine (gconf_bad h.sd (.inl (by omega))).mono ?_
    rintro e w' ⟨rfl, hb⟩
    exact ⟨_, vs, rfl, h.below hb⟩
  · have hc := gconf_ok (c := rc.fst - 1) h.sd (by omega)
    rw [show ((rc.fst - 1 : Nat) : Int) = (rc.fst : Int) - 1 by omega] at hc
    have e : sd.confirm (rc.fst - 1) = sd.upto rc.fst := by
      unfold SdM.confirm SdM.upto SdM.freshN
      rw [show rc.fst - 1 + 1 - sd.beg = rc.fst - sd.beg by omega, show sd.beg + (rc.fst - sd.beg) = rc.fst by omega]
    rw [e] at hc
    refine hc.mono ?_
    rintro e w' ⟨rfl, hk, vs', hP, hg⟩
    exact ⟨_, vs', rfl, h.stepS hk hP hg⟩
theorem Gu.send {w wr : World} {gs gr bm : Nat} {vs vo vt : Value} {sd : SdM} {rc : GcM} {out : List PktM} {tl : List ByteArray} (h : Gu w wr gs gr bm vs vo vt sd rc out tl) {d : ByteArray} (hd : d.size ≤ 500) (hf : sd.nxt < 16777216) :
    Calls Try.prog 8 #[.pointer (some ⟨gs, 0, none⟩), .string d] wr fun e w' => ∃ vs', e = .returned (.tuple #[(pktG sd.key sd.nxt d).val, .int .i64 0]) ∧ Gu w w' gs gr bm vs' vo vt (sd.send d) rc out tl := by
  refine (gsend_ok h.sd hd hf).mono ?_
  rintro e w' ⟨rfl, hK, vs', hP, hg⟩
  exact ⟨vs', rfl, h.stepS hK hP hg⟩
/-- One row behind another. -/
theorem run_joinG {w : World} {B B2 : Nat} {t ty e : TypeId} {i : TypeInfo} {z : Value} {size bytes : Nat} (ht : Try.prog.underlying t = some (.slice e)) (hi : Try.prog.info? e = some i) (hz : i.zero = some z) (hsize : i.size = size) (hby : i.bytes = bytes) (hzs : z.cells.size = size) (hsz : 0 < size)
    {v x : Value} {n m : Nat} {xs ys : List Value} (hown : w.ownsRow B e size v n xs) (hsrc : w.ownsRow B2 e size x m ys) (h1 : ∀ u ∈ ys, u.oneCell' = true) (h63 : n + m ≤ maxLen) (hbytes : (n + m) * bytes ≤ 140737488355328) (hbase : B ≤ w.heap.size) :
    ∃ v' w', (Builtin.append_ #[t, t] ty #[v, x]).run Try.prog w = .ok v' w' ∧ w'.ownsRow B e size v' (n + m) (xs ++ ys) ∧ Kept (ownB v) w w' ∧ (∀ y ∈ ownB v', y ∈ ownB v ∨ w.heap.size ≤ y) := by
  have hs2 := hsrc
  rcases hsrc.2 with ⟨rfl, rfl⟩ | ⟨g, cap, cur, rfl, _, _, _⟩
  · have hy : ys = [] := List.eq_nil_of_length_eq_zero (by simpa using hsrc.1)
    subst hy
    exact ⟨v, w, run_append_owned_none (P := Try.prog) w B t ty e i size ht hi v n xs hown, by simpa using hown, Kept.refl _ _, fun y hy => .inl hy⟩
  · obtain ⟨v', w', hr, ho, hg, _, hb⟩ := run_append_own_at (P := Try.prog) w B t ty e i z size bytes ht hi hz hsize hby hzs hsz v n xs hown ⟨g, 0, none⟩ m cap ys hsrc.1 (fun j u hj => by
      have hj' : j < m * size := by rw [← hsrc.1]; exact (List.getElem?_eq_some_iff.1 hj).1
      rw [Addr.add_lit, Nat.zero_add, hs2.cellAt j hj', hj]) h1 h63 hbytes hbase
    refine ⟨v', w', hr, ho, Kept.grownR hg, fun y hy => ?_⟩
    have hy' : v'.ownBlock = some y := by simpa [ownB] using hy
    rcases hb with hb | hb
    · exact .inl (by simpa [ownB, ← hb] using hy')
    · rw [hb] at hy'
      exact .inr (by have := Option.some.inj hy'; omega)
end Go.Proofs.Ytbmdjfolfmgmmag
