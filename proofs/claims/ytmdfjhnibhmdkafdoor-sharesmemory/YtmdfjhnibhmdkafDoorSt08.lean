import Derived.Test.YtmdfjhnibhmdkafDoorSt07
namespace Go.Proofs.YtmdfjhnibhmdkafDoor
open Go.ChangeShapes Go.WideShapes Go.ChangeAt Go.RowKit
theorem Kept.new {S S' : List Nat} {a b c : World} (h : Kept S a b) (k : Kept S' b c) (hs : ∀ x ∈ S', x ∈ S ∨ a.heap.size ≤ x) : Kept S a c :=
  ⟨k.os.trans h.os, k.tape.trans h.tape, k.output.trans h.output, Nat.le_trans h.size k.size, fun i hi hn => (k.block i (Nat.lt_of_lt_of_le hi h.size) (fun e => (hs i e).elim hn (fun e2 => by omega))).trans (h.block i hi hn)⟩
theorem byF_fit {l : List UsM} (h : OkU l) (a : Nat) : 0 ≤ byF UsM.fit l a ∧ byF UsM.fit l a ≤ 10000 := by
  by_cases hex : ∃ i, i < l.length ∧ (l.getD i .zero).who = (a : Int)
  · obtain ⟨i, hi, e⟩ := hex
    have hf := byF_at (f := UsM.fit) h hi
    rw [e, Int.toNat_natCast] at hf
    rw [hf]
    have := (h.at hi).2.2
    omega
  · rw [byF_none fun i hi e => hex ⟨i, hi, e⟩]
    omega
theorem byF_who {l : List UsM} (h : OkU l) {bw : Nat → Int} (ho : Only l bw) {a : Nat} (ha : 0 < bw a) : byF UsM.who l a = (a : Int) := by
  by_cases hex : ∃ i, i < l.length ∧ (l.getD i .zero).who = (a : Int)
  · obtain ⟨i, hi, e⟩ := hex
    have hf := byF_at (f := UsM.who) h hi
    rw [e, Int.toNat_natCast] at hf
    exact hf
  · have := ho a fun i hi e => hex ⟨i, hi, e⟩
    omega
set_option maxRecDepth 100000 in
set_option maxHeartbeats 2000000 in
theorem pslot_bad (l : List UsM) (blocks : Int) (nl c : Nat) (a : Option Addr) (r : Value) (w : World) (hU : Usr w a l) (hnl : l.length = nl) (hm : nl ≤ maxLen) (hbad : ¬ slotOk l blocks) :
    Calls Tryd.prog 22 #[r, .slice a nl c, .int .i64 blocks] w fun e w' => e = .returned (.tuple #[.slice none 0 0, .int .i64 1]) ∧ Below w.heap.size w w' := by
  have hcs : Calls Tryd.prog 36 #[.slice a nl c, .int .i64 blocks] w fun e w' => e = .returned (.int .i64 1) ∧ Below w.heap.size w w' := (cslot_any l blocks nl c a w hU hnl hm).mono fun e w' h => ⟨h.1.elim (fun x => absurd x.1 hbad) (fun x => x.2), h.2⟩
  clear hU hnl hm hbad
  go_enter Tryd.func22, Tryd.ntmps22
  go_wp2_with (go_at_call 36; refine hcs.mono ?_; rintro e w1 ⟨rfl, hb1⟩)
  go_ret2
  exact ⟨rfl, hb1⟩
set_option maxRecDepth 100000 in
set_option maxHeartbeats 4000000 in
theorem pslot_good (l : List UsM) (blocks nl c r last : Nat) (opn : Bool) (cr : Nat → Int) (q : Int) (a : Option Addr) (w : World) (hb100 : blocks ≤ 100) (hU : Usr w a l) (hnl : l.length = nl) (hO : OkU l) (hT : PTurn w r q last opn cr) (hq1 : 1 ≤ q) (hq2 : q ≤ 10000) (hcr : ∀ a, 0 ≤ cr a) (hcb : CrB (slot0 l last opn cr)) (hla : last ≤ 16) (hop : opn = true → 1 ≤ last) :
    Calls Tryd.prog 22 #[.pointer (some ⟨r, 0, none⟩), .slice a nl c, .int .i64 (blocks : Int)] w fun e w' => ∃ go, e = .returned (.tuple #[.slice (some ⟨go, 0, none⟩) blocks blocks, .int .i64 0]) ∧ ArrAt .i64 3 w' go (fillO (slotM q (byF UsM.fit l) blocks (slot0 l last opn cr)).out blocks) ∧ PTurn w' r q (slotM q (byF UsM.fit l) blocks (slot0 l last opn cr)).last (slotM q (byF UsM.fit l) blocks (slot0 l last opn cr)).opn (slotM q (byF UsM.fit l) blocks (slot0 l last opn cr)).cr ∧ w.heap.size ≤ go ∧ Kept [r] w w' := by
  have h16 := okU_few hO
  rw [hnl] at h16
  have hcs : Calls Tryd.prog 36 #[.slice a nl c, .int .i64 (blocks : Int)] w fun e w' => e = .returned (.int .i64 0) ∧ Below w.heap.size w w' := (cslot_any l blocks nl c a w hU hnl (by unfold maxLen; omega)).mono fun e w' h => ⟨h.1.elim (fun x => x.2) (fun x => absurd ⟨⟨by omega, by omega⟩, hO⟩ x.1), h.2⟩
  have hns := fun (wz : World) (hz : Below w.heap.size w wz) => nslot_any l blocks nl c a wz (hU.below hz) hnl hO h16 hb100
  obtain ⟨s0, es0⟩ : ∃ s0, s0 = slot0 l last opn cr := ⟨_, rfl⟩
  have hs0 : s0.Ok blocks := by rw [es0]; exact ⟨hla, hop, hcr, fun a => (byF_le hO a).1, Nat.zero_le _⟩
  have HS0 := hid es0
  have HS0K := hid hs0
  have HO := hid hO
  have HT := hid hT
  have HCB := hid hcb
  have hrw := FunAt.lt hT
  rw [← es0]
  clear hU hnl hT hla hop hcr hcb es0 hO hs0
  go_enter Tryd.func22, Tryd.ntmps22
  go_wp2_with (first
    | (go_at_call 36; refine hcs.mono ?_; rintro e w1 ⟨rfl, hb1⟩)
    | (go_at_call 37; refine (hns _ hb1).mono ?_; rintro e w2 ⟨sb, ob, rfl, hSK, hAK, hne, hsb, hob, hb2⟩))
  have hbw : Below w.heap.size w w2 := hb1.trans (hb2.mono hb1.size)
  have hsb' : w.heap.size ≤ sb := Nat.le_trans hb1.size hsb
  have hob' : w.heap.size ≤ ob := Nat.le_trans hb1.size hob
  have hD : Dis r sb ob := ⟨by omega, by omega, hne⟩
  have hV0 : VP w2 r sb ob q (byF UsM.who l) (byF UsM.fit l) blocks s0.opn s0 := by
    rw [HS0.out]
    refine ⟨FunAt.below HT.out hbw, ?_, ?_⟩
    · unfold SlotK at hSK
      rw [List.take_length] at hSK
      exact hSK
    · show ArrAt .i64 3 w2 ob (fillO [] blocks)
      have e : fillO [] blocks = List.replicate blocks 0 := by simp [fillO]
      rw [e]
      exact hAK
  have hK0 : Kept [r] w w2 := Kept.of_below hbw
  clear hcs hns hb1 hb2 hSK hAK hsb hob hbw
  go_loopg [] (s0.mu blocks) (fun gg wr => ∃ s : SlM, VP wr r sb ob q (byF UsM.who l) (byF UsM.fit l) blocks s.opn s ∧ Hid (slotM q (byF UsM.fit l) blocks s0 = slotM q (byF UsM.fit l) blocks s ∧ Only l s.bw) ∧ Hid (s.Ok blocks) ∧ Hid (CrU s) ∧ s.mu blocks ≤ gg ∧ Kept [r] w wr)
  case atStart => exact ⟨s0, hV0, ⟨rfl, by rw [HS0.out]; exact Only.start l⟩, HS0K, (show Hid _ from by rw [HS0.out]; exact ⟨HCB.out, fun a => (byF_le HO.out a).2⟩), Nat.le_refl _, hK0⟩
  case round =>
    clear hV0 hK0
    obtain ⟨s, hV, HSL, HOK, HC, hgg, hK⟩ := hrel
    have hlf := fun (wz : World) (hz : VP wz r sb ob q (byF UsM.who l) (byF UsM.fit l) blocks s.opn s) => left_any sb ob blocks s.out.length (byF UsM.who l) s.bw (byF UsM.fit l) (cntW s.bw : Nat) wz hz.sl
    have hca := cnt_any s.bw
    have hcb : decide (0 < cntW s.bw) = anyB s.bw := by rw [← hca]; congr 1; exact propext ⟨fun h => by omega, fun h => by omega⟩
    have hol := HOK.out.out
    by_cases hlt : s.out.length < blocks
    · have xl : decide (s.out.length < blocks) = true := decide_eq_true hlt
      cases ha : anyB s.bw with
      | false =>
        rw [ha] at hca hcb
        have HX : Hid (slotM q (byF UsM.fit l) blocks s0 = s) := by
          show _ = _
          rw [HSL.out.1]
          exact slot_stop (fun h => by rw [ha] at h; exact absurd h.2 (by decide))
        clear ha hlt
        go_wp2_with (go_at_call 38; refine (hlf _ hV).mono ?_; rintro e wl ⟨rfl, hbl⟩; have hVl := hV.below hbl; have hKl := hK.trans (Kept.of_below hbl); obtain ⟨c0, c1, c2⟩ := hVl.sl.tail)
        go_ret2
        exact ⟨ob, rfl, by rw [HX.out]; exact hVl.ow, by rw [HX.out]; exact hVl.t, hob', hKl⟩
      | true =>
        rw [ha] at hca hcb
        have hF := fitU HO.out HSL.out.2
        have hvs := fun (wz : World) (hz : VP wz r sb ob q (byF UsM.who l) (byF UsM.fit l) blocks s.opn s) => visit_any q r sb ob blocks (byF UsM.who l) (byF UsM.fit l) s wz hz hD HOK.out hF HC.out hq1 hq2 hb100 (fun a _ _ h => byF_who HO.out HSL.out.2 h) (byF_fit HO.out)
        have HVS : Hid (slotM q (byF UsM.fit l) blocks s0 = slotM q (byF UsM.fit l) blocks (visitM q (byF UsM.fit l) blocks s)) := by
          show _ = _
          rw [HSL.out.1]
          exact slot_step hq1 hF HOK.out ⟨hlt, ha⟩
        have HMU := hid (visit_mu hq1 hF HOK.out hlt ha)
        have HVO := hid (visit_ok (q := q) (by omega) hF HOK.out)
        have HVC : Hid (CrU (visitM q (byF UsM.fit l) blocks s)) := ⟨HC.out.1.visit ⟨by omega, hq2⟩ HOK.out hF, fun a => Int.le_trans (visit_le hF a) (HC.out.2 a)⟩
        have HON := hid HSL.out.2
        clear ha hlt hF
        go_wp2_with (first
          | (go_at_call 38; refine (hlf _ hV).mono ?_; rintro e wl ⟨rfl, hbl⟩; have hVl := hV.below hbl; have hKl := hK.trans (Kept.of_below hbl); obtain ⟨c0, c1, c2⟩ := hVl.sl.tail)
          | (go_at_call 39; refine (hvs _ hVl).mono ?_; rintro e wv ⟨rfl, hVv, hKv⟩; have hKw := hKl.new hKv (by intro x hx; simp only [List.mem_cons, List.not_mem_nil, or_false] at hx; rcases hx with rfl | rfl | rfl <;> simp [*])))
        go_roundg ((visitM q (byF UsM.fit l) blocks s).mu blocks)
        case measure => have := HMU.out; omega
        case rel => exact ⟨_, hVv, ⟨HVS.out, HON.out.visit HVO.out⟩, HVO, HVC, Nat.le_refl _, hKw⟩
    · have xl : decide (s.out.length < blocks) = false := decide_eq_false hlt
      have HX : Hid (slotM q (byF UsM.fit l) blocks s0 = s) := by
        show _ = _
        rw [HSL.out.1]
        exact slot_stop (fun h => hlt h.1)
      clear hlt
      go_wp2_with (go_at_call 38; refine (hlf _ hV).mono ?_; rintro e wl ⟨rfl, hbl⟩; have hVl := hV.below hbl; have hKl := hK.trans (Kept.of_below hbl); obtain ⟨c0, c1, c2⟩ := hVl.sl.tail)
      go_ret2
      exact ⟨ob, rfl, by rw [HX.out]; exact hVl.ow, by rw [HX.out]; exact hVl.t, hob', hKl⟩
end Go.Proofs.YtmdfjhnibhmdkafDoor
namespace Go.Proofs.YtmdfjhnibhmdkafDoor
open Go.ChangeShapes Go.WideShapes Go.ChangeAt Go.RowKit
structure TSt where
  last : Nat
  opn : Bool
  cr : Nat → Int
structure TSt.Ok (t : TSt) : Prop where
  last : t.last ≤ 16
  opn : t.opn = true → 1 ≤ t.last
  cr : ∀ a, 0 ≤ t.cr a
  low : ∀ a, t.cr a < 10000 ∨ (t.opn = true ∧ a = t.last ∧ t.cr a < 20000)
def TSt.new : TSt := ⟨0, false, fun _ => 0⟩
theorem TSt.new_ok : TSt.new.Ok := ⟨Nat.zero_le _, fun h => (by cases h), fun _ => Int.le_refl _, fun _ => .inl (show (0 : Int) < 10000 by omega)⟩
def TSt.s0 (t : TSt) (l : List UsM) : SlM := slot0 l t.last t.opn t.cr
def slotB (l : List UsM) (blocks : Int) : Bool := decide (0 ≤ blocks ∧ blocks ≤ 100) && (List.range l.length).all fun i => (l.getD i .zero).ok (befU l i)
theorem slotB_iff {l : List UsM} {blocks : Int} : slotB l blocks = true ↔ slotOk l blocks := by
  unfold slotB slotOk OkU okUTo
  rw [Bool.and_eq_true, decide_eq_true_eq, List.all_eq_true]
  constructor
  · rintro ⟨h1, h2⟩
    exact ⟨h1, fun i hi => h2 i (List.mem_range.2 hi)⟩
  · rintro ⟨h1, h2⟩
    exact ⟨h1, fun i hi => h2 i (List.mem_range.1 hi)⟩
def TSt.run (t : TSt) (q : Int) (l : List UsM) (blocks : Int) : SlM := slotM q (byF UsM.fit l) blocks.toNat (t.s0 l)
def TSt.next (t : TSt) (q : Int) (l : List UsM) (blocks : Int) : TSt := if slotB l blocks = true then ⟨(t.run q l blocks).last, (t.run q l blocks).opn, (t.run q l blocks).cr⟩ else t
def TSt.says (t : TSt) (q : Int) (l : List UsM) (blocks : Int) : List Int := if slotB l blocks = true then fillO (t.run q l blocks).out blocks.toNat else []
def slotErr (l : List UsM) (blocks : Int) : Int := if slotB l blocks = true then 0 else 1
theorem TSt.Ok.s0 {t : TSt} (h : t.Ok) {l : List UsM} (hO : OkU l) (blocks : Nat) : (t.s0 l).Ok blocks := ⟨h.last, h.opn, h.cr, fun a => (byF_le hO a).1, Nat.zero_le _⟩
theorem TSt.Ok.run {t : TSt} (h : t.Ok) {q : Int} (hq : 1 ≤ q ∧ q ≤ 10000) {l : List UsM} {blocks : Int} (hs : slotOk l blocks) : CrB (t.run q l blocks) ∧ (t.run q l blocks).Ok blocks.toNat := by
  have h0 := h.s0 hs.2 blocks.toNat
  have hF : FitOk (byF UsM.fit l) (t.s0 l).bw := fitU hs.2 (Only.start l)
  have := slot_ind (blocks := blocks.toNat) (fits := byF UsM.fit l) hq.1 CrB (fun s hok hf hi _ _ => hi.visit ⟨by omega, hq.2⟩ hok hf) _ (t.s0 l) (Nat.le_refl _) h0 hF h.low
  exact ⟨this.1, this.2.1⟩
theorem TSt.Ok.next {t : TSt} (h : t.Ok) {q : Int} (hq : 1 ≤ q ∧ q ≤ 10000) (l : List UsM) (blocks : Int) : (t.next q l blocks).Ok := by
  unfold TSt.next
  by_cases hb : slotB l blocks = true
  · rw [if_pos hb]
    obtain ⟨h1, h2⟩ := h.run hq (slotB_iff.1 hb)
    exact ⟨h2.last, h2.opn, h2.cr, h1⟩
  · rw [if_neg hb]
    exact h
theorem says_len {t : TSt} {q : Int} {l : List UsM} {blocks : Int} (h : t.Ok) (hq : 1 ≤ q ∧ q ≤ 10000) : (t.says q l blocks).length ≤ 100 := by
  unfold TSt.says
  by_cases hb : slotB l blocks = true
  · rw [if_pos hb]
    have hs := slotB_iff.1 hb
    rw [fillO_length (h.run hq hs).2.out]
    have := hs.1
    omega
  · rw [if_neg hb]
    simp
theorem pslot_any (t : TSt) (l : List UsM) (blocks q : Int) (nl c r : Nat) (a : Option Addr) (w : World) (ht : t.Ok) (hq : 1 ≤ q ∧ q ≤ 10000) (hU : Usr w a l) (hnl : l.length = nl) (hm : nl ≤ maxLen) (hT : PTurn w r q t.last t.opn t.cr) :
    Calls Tryd.prog 22 #[.pointer (some ⟨r, 0, none⟩), .slice a nl c, .int .i64 blocks] w fun e w' => ∃ v, e = .returned (.tuple #[v, .int .i64 (slotErr l blocks)]) ∧ OwnI w' w.heap.size v (t.says q l blocks) ∧ PTurn w' r q (t.next q l blocks).last (t.next q l blocks).opn (t.next q l blocks).cr ∧ Kept [r] w w' := by
  by_cases hb : slotB l blocks = true
  · have hs := slotB_iff.1 hb
    obtain ⟨k, rfl⟩ : ∃ k : Nat, blocks = (k : Int) := ⟨blocks.toNat, by have := hs.1; omega⟩
    have e1 : t.next q l k = ⟨(t.run q l k).last, (t.run q l k).opn, (t.run q l k).cr⟩ := if_pos hb
    have e2 : t.says q l k = fillO (t.run q l k).out k := if_pos hb
    have e3 : slotErr l k = 0 := if_pos hb
    have hlen := (ht.run hq hs).2.out
    rw [e1, e2, e3]
    refine (pslot_good l k nl c r t.last t.opn t.cr q a w (by have := hs.1; omega) hU hnl hs.2 hT hq.1 hq.2 ht.cr ht.low ht.last ht.opn).mono ?_
    rintro e w' ⟨go, rfl, h1, h2, h3, h4⟩
    refine ⟨_, rfl, ownI_of_arr h1 h3 ?_ (by have := hs.1; unfold maxLen; omega), h2, h4⟩
    exact fillO_length hlen
  · have e1 : t.next q l blocks = t := if_neg hb
    have e2 : t.says q l blocks = [] := if_neg hb
    have e3 : slotErr l blocks = 1 := if_neg hb
    rw [e1, e2, e3]
    refine (pslot_bad l blocks nl c a _ w hU hnl hm (fun h => hb (slotB_iff.2 h))).mono ?_
    rintro e w' ⟨rfl, h1⟩
    exact ⟨_, rfl, OwnI.nil _ _, FunAt.below hT h1, Kept.of_below h1⟩
end Go.Proofs.YtmdfjhnibhmdkafDoor
