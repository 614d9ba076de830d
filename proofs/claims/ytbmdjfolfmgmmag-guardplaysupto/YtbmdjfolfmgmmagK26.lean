import Derived.Test.YtbmdjfolfmgmmagK25
import Derived.Deep.DeepCutAuto
import Derived.Deep.CutBlock
namespace Go.Proofs.Ytbmdjfolfmgmmag
open Go.ChangeShapes Go.WideShapes Go.ChangeAt Go.RowKit
set_option maxRecDepth 100000 in
theorem gplays_bad (k : Int) (b : Value) (w : World) (hk : keyOk k = false) :
    Calls Try.prog 3 #[.int .i64 k, b] w fun e w' => e = .returned (.bool true) ∧ Below w.heap.size w w' := by
  have hs := fun wz => gnewS_bad k wz hk
  have hr := fun wz => gnewR_bad k wz hk
  have hq := fun wz => rkey_any k wz
  rw [hk] at hq
  clear hk
  go_enter Try.func3, Try.ntmps3
  go_wp2_with (first
    | (go_at_call 5; refine (hs _).mono ?_; rintro e w1 ⟨rfl, hb1⟩)
    | (go_at_call 6; refine (hr _).mono ?_; rintro e w2 ⟨rfl, hb2⟩)
    | (go_at_call 7; refine (hq _).mono ?_; rintro e w3 ⟨rfl, rfl⟩))
  go_ret
  exact ⟨rfl, bthen hb1 hb2⟩
structure TurnM where
  kind : Int
  n : Int
  text : ByteArray
def TurnM.zero : TurnM := ⟨0, 0, ByteArray.empty⟩
/-- Turns that can be read. -/
def Tns (w : World) (a : Option Addr) (l : List TurnM) : Prop := l ≠ [] → ∃ b o, a = some ⟨b, o, none⟩ ∧ ∀ i, i < l.length → w.cell? ⟨b, o + i * 3, none⟩ = some (.int .i64 (l.getD i .zero).kind) ∧ w.cell? ⟨b, o + i * 3 + 1, none⟩ = some (.int .i64 (l.getD i .zero).n) ∧ w.cell? ⟨b, o + i * 3 + 2, none⟩ = some (.string (l.getD i .zero).text)
theorem Tns.kept {w w' : World} {a : Option Addr} {l : List TurnM} {S : List Nat} (h : Tns w a l) (hk : Kept S w w') (hn : NotIn S a) : Tns w' a l := by
  intro hne
  obtain ⟨b, o, rfl, hC⟩ := h hne
  exact ⟨b, o, rfl, fun i hi => ⟨keptCellQ hk (hC i hi).1 (hn ⟨b, o, none⟩ rfl), keptCellQ hk (hC i hi).2.1 (hn ⟨b, o, none⟩ rfl), keptCellQ hk (hC i hi).2.2 (hn ⟨b, o, none⟩ rfl)⟩⟩
/-- A block that holds a struct. -/
def atC (g : Nat) (T : TypeId) (cs : List Value) : Cmp := ⟨fun w F => F = [g] ∧ At w g T cs, fun w F ⟨e, h⟩ => by subst e; exact fun x hx => by rw [List.mem_singleton] at hx; subst hx; exact h.lt, fun w w' F S ⟨e, h⟩ hk hn => by subst e; exact ⟨rfl, h.kept hk (hn g (by simp))⟩⟩
theorem Gp.lay {w wr : World} {G : GpS} {s1 s2 : SdM} {r1 r2 : GcM} {K : Nat} {vo : Value} {out : List PktM} {X : List (Cmp × List Nat)} (h : Gp w wr G s1 r1 s2 r2 K vo out X) (T : TypeId) (cs : List Value) : Gp w (wr.alloc (.cells cs.toArray T)) G s1 r1 s2 r2 K vo out (X ++ [(atC wr.heap.size T cs, [wr.heap.size])]) := by
  obtain ⟨Fs, Fr, Fa, Fb, Fo, h⟩ := h
  exact ⟨_, _, _, _, _, (h.below ((Below.refl _ wr).alloc (Nat.le_refl _) (.cells cs.toArray T))).add (n := wr.heap.size) h.bel.size h.lts (atC wr.heap.size T cs) [wr.heap.size] ⟨rfl, at_newG wr T cs⟩ (fun x hx => by rw [List.mem_singleton] at hx; omega)⟩
theorem Gp.at {w wr : World} {G : GpS} {s1 s2 : SdM} {r1 r2 : GcM} {K : Nat} {vo : Value} {out : List PktM} {X : List (Cmp × List Nat)} (h : Gp w wr G s1 r1 s2 r2 K vo out X) {g : Nat} {T : TypeId} {cs : List Value} (hc : (atC g T cs, [g]) ∈ X) : At wr g T cs := (h.beside hc).2
theorem Gp.push2 {w w5 : World} {G : GpS} {s1 s2 : SdM} {r1 r2 : GcM} {K : Nat} {ao : Option Addr} {no co : Nat} {out : List PktM} {X : List (Cmp × List Nat)} {o : Obj} (h : Gp w (w5.alloc o) G s1 r1 s2 r2 K (.slice ao no co) out X) (p : PktM) (hm : out.length < 3000000000000) :
    ∃ ao' co' w', (Builtin.append_ #[39, 39] 39 #[.slice ao no co, .slice (some ⟨w5.heap.size + 1, 0, none⟩) 1 1]).run Try.prog ((w5.alloc o).alloc (.cells #[.int .i64 p.short, .string p.data, .string p.sl] 43)) = .ok (.slice ao' (out.length + 1) co') w' ∧ Gp w w' G s1 r1 s2 r2 K (.slice ao' (out.length + 1) co') (out ++ [p]) X := by
  have hs : (w5.alloc o).heap.size = w5.heap.size + 1 := World.size_alloc _ _
  have hA := at_newG (w5.alloc o) 43 [.int .i64 p.short, .string p.data, .string p.sl]
  rw [hs] at hA
  exact (h.below ((Below.refl _ (w5.alloc o)).alloc (Nat.le_refl _) (.cells #[.int .i64 p.short, .string p.data, .string p.sl] 43))).push p hm hA
theorem conf_nxt (m : SdM) (c : Int) {j : Nat} (h : m.nxt ≤ j) : (m.conf c).nxt ≤ j := by
  unfold SdM.conf
  split
  · rename_i hc
    have h1 : m.beg + m.wait.length ≤ j := h
    have h2 : c < ((m.beg + m.wait.length : Nat) : Int) := hc.2
    show m.beg + m.freshN c.toNat + (m.wait.drop (m.freshN c.toNat)).length ≤ j
    rw [List.length_drop]
    unfold SdM.freshN
    omega
  · exact h
theorem again_small {m : SdM} {k : Int} (h : (m.move k).Ok) : ∀ p ∈ m.again k, p.sl.size = 3 ∧ p.data.size ≤ 500 := fun p hp => by
  have hp' : p ∈ (List.range m.wait.length).map fun i => pktG k (m.beg + i) (m.wait.getD i ByteArray.empty) := hp
  obtain ⟨i, hi, rfl⟩ := List.mem_map.1 hp'
  refine ⟨sealG_size _ _, ?_⟩
  show (hidG _ _).size ≤ 500
  rw [hidG_size]
  exact h.small i (List.mem_range.1 hi)
theorem Gp.joinNil {w wr : World} {G : GpS} {s1 s2 : SdM} {r1 r2 : GcM} {K : Nat} {vo : Value} {out : List PktM} {X : List (Cmp × List Nat)} (h : Gp w wr G s1 r1 s2 r2 K vo out X) : (Builtin.append_ #[39, 39] 39 #[vo, .slice none 0 0]).run Try.prog wr = .ok vo wr := by
  obtain ⟨i0, hi, hz0, hz1, hz2⟩ := info_parts Try.infoPk
  exact run_append_owned_none (P := Try.prog) wr 0 39 39 43 i0 3 Try.underlying39 hi vo out.length (cellsPk out) h.out
def bndG (j : Nat) : Nat := j * j + j
theorem bndG_succ (j : Nat) : bndG (j + 1) = bndG j + 2 * j + 2 := by
  have e : (j + 1) * (j + 1) = j * j + j + j + 1 := by rw [Nat.mul_add, Nat.add_mul]; omega
  unfold bndG
  rw [e]
  omega
theorem bndG_le {j : Nat} (h : j ≤ 1048576) : bndG j ≤ 1099512676352 := by
  unfold bndG
  have := Nat.mul_le_mul h h
  omega
/-- What stands between two rounds. -/
def GpAt (w : World) (G : GpS) (j : Nat) (vo : Value) (wr : World) : Prop := ∃ (sd : SdM) (rc : GcM) (out : List PktM) (K : Nat), Gp w wr G sd rc sd rc K vo out [] ∧ K ≤ j ∧ sd.nxt ≤ j ∧ out.length ≤ bndG j ∧ ∀ p ∈ out, p.sl.size = 3 ∧ p.data.size ≤ 500
theorem Sep.none (w : World) : Sep w w [] := ⟨Below.refl _ _, fun c hc => absurd hc (by simp), fun c hc => absurd hc (by simp), List.Pairwise.nil⟩
theorem GpAt.first {w w1 w2 : World} {k : Int} {gr bm : Nat} (hk : keyOk k = true) (hP : PSd w1 w.heap.size (.slice none 0 0) (.new k)) (hb1 : Below w.heap.size w w1) (hR : PGc w2 gr bm (.new k)) (h1 : w1.heap.size ≤ gr) (h2 : w1.heap.size ≤ bm) (hb2 : Below w1.heap.size w1 w2) :
    GpAt w ⟨w.heap.size, gr, bm, w2.heap.size, w2.heap.size + 1⟩ 0 (.slice none 0 0) ((w2.alloc (.cells #[.int .i64 k, .slice none 0 0, .int .i64 0] 34)).alloc (.cells #[.int .i64 k, .int .i64 0, .slice none 0 0, .slice none 0 0] 38)) := by
  have hb := keyOk_bd hk
  have s1 : Sep w w1 [(sndC w.heap.size (.new k), sdF w.heap.size (.slice none 0 0))] := Sep.add (L := []) ⟨hb1, fun c hc => absurd hc (by simp), fun c hc => absurd hc (by simp), List.Pairwise.nil⟩ (n := w.heap.size) (Nat.le_refl _) (fun d hd => absurd hd (by simp)) _ _ ⟨_, rfl, hP⟩ (fun x hx => by
    have : x = w.heap.size := by simpa [sdF, blkG] using hx
    omega)
  have s2 := (s1.below hb2).add (n := w1.heap.size) hb1.size s1.lts (rcvC gr bm (.new k)) (gcF gr bm) ⟨rfl, hR⟩ (fun x hx => by
    have : x = gr ∨ x = bm := by simpa [gcF] using hx
    omega)
  have hz3 : (w2.alloc (.cells #[.int .i64 k, .slice none 0 0, .int .i64 0] 34)).heap.size = w2.heap.size + 1 := World.size_alloc _ _
  have hA3 := at_newG w2 34 [.int .i64 k, .slice none 0 0, .int .i64 0]
  have hA4 := at_newG (w2.alloc (.cells #[.int .i64 k, .slice none 0 0, .int .i64 0] 34)) 38 [.int .i64 k, .int .i64 0, .slice none 0 0, .slice none 0 0]
  rw [hz3] at hA4
  have hs2 : w.heap.size ≤ w2.heap.size := s2.bel.size
  have s3 := (s2.below ((Below.refl _ w2).alloc (Nat.le_refl _) (.cells #[.int .i64 k, .slice none 0 0, .int .i64 0] 34))).add (n := w2.heap.size) hs2 s2.lts (gvC w2.heap.size (.new k)) (gvF w2.heap.size (.slice none 0 0)) ⟨_, [], rfl, hA3, ⟨rfl, .inl ⟨rfl, rfl⟩⟩, by simp [ownB, Value.ownBlock], ⟨hb, by show 0 + 0 ≤ 16777216; omega, fun i hi => absurd hi (by simp [SdM.new])⟩, rfl, rfl, fun i hi => absurd hi (by simp)⟩ (fun x hx => by
    have : x = w2.heap.size := by simpa [gvF, ownB, Value.ownBlock] using hx
    omega)
  have s4 := (s3.below ((Below.refl _ (w2.alloc (.cells #[.int .i64 k, .slice none 0 0, .int .i64 0] 34))).alloc (Nat.le_refl _) (.cells #[.int .i64 k, .int .i64 0, .slice none 0 0, .slice none 0 0] 38))).add (n := w2.heap.size + 1) (by omega) (fun d hd x hx => by have := s3.lts d hd x hx; rw [hz3] at this; exact this) (gtC (w2.heap.size + 1) (.new k) 0) (gtF (w2.heap.size + 1) (.slice none 0 0) (.slice none 0 0)) ⟨_, _, [], [], rfl, ⟨hA4, ⟨rfl, .inl ⟨rfl, rfl⟩⟩, ⟨rfl, .inl ⟨rfl, rfl⟩⟩, rfl, by simp [ownB, Value.ownBlock], by simp [ownB, Value.ownBlock], fun x hx => absurd hx (by simp [ownB, Value.ownBlock]), fun q _ x => ⟨fun e => (by cases e), fun ⟨i, hi, _⟩ => absurd hi (by simp)⟩, fun i hi => absurd hi (by simp), ⟨hb, Nat.zero_le _, fun _ _ => rfl, fun _ _ => rfl⟩⟩, Nat.le_refl _⟩ (fun x hx => by
    have : x = w2.heap.size + 1 := by simpa [gtF, ownB, Value.ownBlock] using hx
    omega)
  have s5 := s4.add (n := w2.heap.size + 2) (by omega) (fun d hd x hx => by
    have := s4.lts d hd x hx
    rw [World.size_alloc, hz3] at this
    exact this) (pksC (.slice none 0 0) []) [] ⟨rfl, ⟨rfl, .inl ⟨rfl, rfl⟩⟩⟩ (fun x hx => absurd hx (by simp))
  exact ⟨.new k, .new k, [], 0, ⟨_, _, _, _, _, s5⟩, Nat.le_refl _, Nat.le_refl _, Nat.zero_le _, fun p hp => absurd hp (by simp)⟩
set_option maxRecDepth 100000 in
set_option maxHeartbeats 40000000 in
theorem gplays_good (k0 : Int) (ts : List TurnM) (al : Option Addr) (nl cl : Nat) (w : World) (hk : keyOk k0 = true) (hT : Tns w al ts) (hnl : ts.length = nl) (hlm : nl ≤ 1048576) (htz : ∀ i, i < nl → (ts.getD i .zero).text.size ≤ 1048576) :
    Calls Try.prog 3 #[.int .i64 k0, .slice al nl cl] w fun e w' => e = .returned (.bool true) ∧ Below w.heap.size w w' := by
  have hs := fun wz => gnewS_ok k0 wz hk
  have hr := fun wz => gnewR_ok k0 wz hk
  have hq := fun wz => rkey_any k0 wz
  rw [hk] at hq
  have HK := hid hk
  have HT := hid hT
  have HNL := hid hnl
  have HTZ := hid htz
  clear hk hT hnl htz
  go_enter Try.func3, Try.ntmps3
  go_wp2_with (first
    | (go_at_call 5; refine (hs _).mono ?_; rintro e w1 ⟨rfl, hP1, hb1⟩)
    | (go_at_call 6; refine (hr _).mono ?_; rintro e w2 ⟨gr, bm, rfl, hP2, hgr, hbm, hb2⟩)
    | (go_at_call 7; refine (hq _).mono ?_; rintro e w3 ⟨rfl, rfl⟩))
  have hA0 := GpAt.first HK.out hP1 hb1 hP2 hgr hbm hb2
  obtain ⟨w4, ew4⟩ : ∃ w4, w4 = (w2.alloc (.cells #[.int .i64 k0, .slice none 0 0, .int .i64 0] 34)).alloc (.cells #[.int .i64 k0, .int .i64 0, .slice none 0 0, .slice none 0 0] 38) := ⟨_, rfl⟩
  obtain ⟨ga, ega⟩ : ∃ ga, ga = w2.heap.size := ⟨_, rfl⟩
  obtain ⟨gb, egb⟩ : ∃ gb, gb = w2.heap.size + 1 := ⟨_, rfl⟩
  rw [← egb, ← ega, ← ew4] at hA0
  rw [← egb, ← ega, ← ew4]
  clear hP1 hP2 hb1 hb2 hgr hbm ew4 ega egb hs hr hq
  obtain ⟨gs, egs⟩ : ∃ gs, gs = w.heap.size := ⟨_, rfl⟩
  rw [← egs] at hA0
  rw [← egs]
  clear egs
  go_loopw [11, 12] (fun vo i wr => ∃ j : Nat, j ≤ nl ∧ i = .int .i64 j ∧ GpAt w ⟨gs, gr, bm, ga, gb⟩ j vo wr) (fun _ i _ => nl - (intOf i).toNat)
  case atStart => exact ⟨0, Nat.zero_le _, rfl, hA0⟩
  case round =>
    obtain ⟨j, hj, rfl, hA⟩ := hrel
    clear hA0
    by_cases hlt : j < nl
    · obtain ⟨sd, rc, out, K, hG, hKj, hnx, hol, hsz⟩ := hA
      obtain ⟨ao, co, rfl, -, -, -⟩ := row_shape hG.out
      obtain ⟨O, eO⟩ : ∃ O, O = out.length := ⟨_, rfl⟩
      rw [← eO] at hG ⊢
      have hbj := bndG_le (show j ≤ 1048576 by omega)
      have hbs := bndG_succ j
      have hO9 : O ≤ 1099512676352 := by omega
      have HOL := hid hol
      have HSZ := hid hsz
      have HEO := hid eO
      have HBS := hid hbs
      have hjl : j < ts.length := by rw [HNL.out]; exact hlt
      obtain ⟨bl, ol, rfl, hcl⟩ := (HT.out.kept (S := []) (Kept.of_below hG.bel) (fun x _ => by simp)) (by intro e; rw [e] at hjl; simp at hjl)
      obtain ⟨t0, t1, t2⟩ := hcl j hjl
      have htz := HTZ.out j hlt
      generalize ts.getD j .zero = T at *
      obtain ⟨kd, N, tx⟩ := T
      dsimp only at t0 t1 t2 htz
      have hG1 := hG.lay 41 [.int .i64 kd, .int .i64 N, .string tx]
      rw [List.nil_append] at hG1
      change Gp w (wr.alloc (.cells #[.int .i64 kd, .int .i64 N, .string tx] 41)) _ _ _ _ _ _ _ _ _ at hG1
      obtain ⟨wa, ewa⟩ : ∃ wa, wa = wr.alloc (.cells #[.int .i64 kd, .int .i64 N, .string tx] 41) := ⟨_, rfl⟩
      obtain ⟨gt, egt⟩ : ∃ gt, gt = wr.heap.size := ⟨_, rfl⟩
      rw [← ewa, ← egt] at hG1
      have HG1 := hid hG1
      have HEW := hid ewa
      have HEG := hid egt
      clear hcl hG hol hsz eO hbs hbj hG1 ewa egt
      go_upto_block 2 with fail
      rw [← HEW.out, ← HEG.out]
      go_cut [11, 14] (fun vo ok wx => ok = .bool true ∧ GpAt w ⟨gs, gr, bm, ga, gb⟩ (j + 1) vo wx)
      case first =>
        have HAT := hid (HG1.out.at (g := gt) (T := 41) (cs := [.int .i64 kd, .int .i64 N, .string tx]) (by simp))
        have m0 : wa.cell? ⟨gt, 0, none⟩ = some (.int .i64 kd) := HAT.out.cell 0
        have m1 : wa.cell? ⟨gt, 1, none⟩ = some (.int .i64 N) := HAT.out.cell 1
        have m2 : wa.cell? ⟨gt, 2, none⟩ = some (.string tx) := HAT.out.cell 2
        clear t0 t1 t2 HEW HEG
        by_cases e0 : kd = 0
        · subst e0
          as_aux_lemma =>
            by_cases hd : tx.size ≤ 500
            · have hse := HG1.out.send1 hd (by omega)
              obtain ⟨P, eP⟩ : ∃ P, P = pktG sd.key sd.nxt tx := ⟨_, rfl⟩
              have HPZ := hid (show P.sl.size = 3 ∧ P.data.size ≤ 500 by rw [eP]; exact ⟨sealG_size _ _, by show (hidG _ _).size ≤ 500; rw [hidG_size]; exact hd⟩)
              have HEP := hid eP
              rw [← eP] at hse
              obtain ⟨rx, ry, rz⟩ := P
              dsimp only [PktM.val] at hse
              clear eP
              go_wp2_with (first
                | (go_at_call 8; refine hse.mono ?_; rintro e w3 ⟨rfl, hG3⟩; have hG3' := hG3.lay 43 [.int .i64 rx, .string ry, .string rz]; change Gp w (w3.alloc (.cells #[.int .i64 rx, .string ry, .string rz] 43)) _ _ _ _ _ _ _ _ _ at hG3'; have n2 : (w3.alloc (.cells #[.int .i64 rx, .string ry, .string rz] 43)).cell? ⟨gt, 2, none⟩ = some (.string tx) := (hG3'.at (g := gt) (T := 41) (cs := [.int .i64 0, .int .i64 N, .string tx]) (by simp)).cell 2; have hs2 := hG3'.send2 hd (by omega); rw [← HEP.out] at hs2; dsimp only [PktM.val] at hs2; clear hG3 hG3')
                | (go_at_call 9; refine hs2.mono ?_; rintro e w5 ⟨rfl, hG5⟩; have hG6 := (hG5.lay 43 [.int .i64 rx, .string ry, .string rz]); change Gp w (w5.alloc (.cells #[.int .i64 rx, .string ry, .string rz] 43)) _ _ _ _ _ _ _ _ _ at hG6; have ha3 := hG6.at (g := w3.heap.size) (T := 43) (cs := [.int .i64 rx, .string ry, .string rz]) (by simp); have p0 : (w5.alloc (.cells #[.int .i64 rx, .string ry, .string rz] 43)).cell? ⟨w3.heap.size, 0, none⟩ = some (.int .i64 rx) := ha3.cell 0; have p1 : (w5.alloc (.cells #[.int .i64 rx, .string ry, .string rz] 43)).cell? ⟨w3.heap.size, 1, none⟩ = some (.string ry) := ha3.cell 1; have p2 : (w5.alloc (.cells #[.int .i64 rx, .string ry, .string rz] 43)).cell? ⟨w3.heap.size, 2, none⟩ = some (.string rz) := ha3.cell 2; obtain ⟨ao', co', w7, hAp, hG7⟩ := hG6.push2 ⟨rx, ry, rz⟩ (by rw [← HEO.out]; omega); have HG7 := hid hG7; clear hG5 hG6 ha3 hG7)
                | (at_builtin; refine wpList_bi2 _ rfl .append _ _ 39 39 rfl (.slice ao O co) (.slice (some ⟨w5.heap.size + 1, 0, none⟩) 1 1) rfl rfl (bi_append hAp) ?_))
              go_meet
              case rel =>
                refine ⟨rfl, sd.send tx, rc, out ++ [⟨rx, ry, rz⟩], K, HG7.out.less, by omega, ?_, ?_, fun p hp => ?_⟩
                · show sd.beg + (sd.wait ++ [tx]).length ≤ j + 1
                  have : sd.beg + sd.wait.length ≤ j := hnx
                  rw [List.length_append, List.length_singleton]
                  omega
                · rw [List.length_append, List.length_singleton, HBS.out]
                  have := HOL.out
                  omega
                · rcases List.mem_append.1 hp with hp | hp
                  · exact HSZ.out p hp
                  · rw [List.mem_singleton] at hp
                    rw [hp]
                    exact HPZ.out
            · have hse := gsend_large (w := wa) (p := ⟨gs, 0, none⟩) (d := tx) (by omega) (by omega)
              have hs2 := fun wz => rsend_large (w := wz) (p := ⟨ga, 0, none⟩) (d := tx) (by omega) (by omega)
              unfold zeroPk at hse hs2
              go_wp2_with (first
                | (go_at_call 8; refine hse.mono ?_; rintro e w3 ⟨rfl, hb3⟩; have hG3 := (HG1.out.below hb3).lay 43 [.int .i64 0, .string { data := #[] }, .string { data := #[] }]; change Gp w (w3.alloc (.cells #[.int .i64 0, .string { data := #[] }, .string { data := #[] }] 43)) _ _ _ _ _ _ _ _ _ at hG3; have n2 : (w3.alloc (.cells #[.int .i64 0, .string { data := #[] }, .string { data := #[] }] 43)).cell? ⟨gt, 2, none⟩ = some (.string tx) := (hG3.at (g := gt) (T := 41) (cs := [.int .i64 0, .int .i64 N, .string tx]) (by simp)).cell 2; have HG3 := hid hG3; clear hG3)
                | (go_at_call 9; refine (hs2 _).mono ?_; rintro e w5 ⟨rfl, hb5⟩; have hG6 := ((HG3.out.below hb5).lay 43 [.int .i64 0, .string { data := #[] }, .string { data := #[] }]); change Gp w (w5.alloc (.cells #[.int .i64 0, .string { data := #[] }, .string { data := #[] }] 43)) _ _ _ _ _ _ _ _ _ at hG6; have ha3 := hG6.at (g := w3.heap.size) (T := 43) (cs := [.int .i64 0, .string { data := #[] }, .string { data := #[] }]) (by simp); have p0 : (w5.alloc (.cells #[.int .i64 0, .string { data := #[] }, .string { data := #[] }] 43)).cell? ⟨w3.heap.size, 0, none⟩ = some (.int .i64 0) := ha3.cell 0; have p1 : (w5.alloc (.cells #[.int .i64 0, .string { data := #[] }, .string { data := #[] }] 43)).cell? ⟨w3.heap.size, 1, none⟩ = some (.string { data := #[] }) := ha3.cell 1; have p2 : (w5.alloc (.cells #[.int .i64 0, .string { data := #[] }, .string { data := #[] }] 43)).cell? ⟨w3.heap.size, 2, none⟩ = some (.string { data := #[] }) := ha3.cell 2; have HG6 := hid hG6; clear hG6 ha3))
              go_meet
              case rel => exact ⟨rfl, sd, rc, out, K, HG6.out.less, by omega, by omega, by rw [HBS.out]; have := HOL.out; omega, HSZ.out⟩
        by_cases e1 : kd = 1
        · subst e1
          as_aux_lemma =>
            have hc1 := HG1.out.conf1 N
            obtain ⟨E, eE⟩ : ∃ E, E = confErr sd N := ⟨_, rfl⟩
            rw [← eE] at hc1
            have HEE := hid eE
            have HC1 := hid hc1
            have HNX := hid (show (sd.conf N).nxt ≤ j from conf_nxt sd N hnx)
            clear eE hc1
            go_upto_region 22 with fail
            go_region_held3 (fun w' => w'.cell? ⟨gt, 1, none⟩ = some (.int .i64 N)) (first | exact m1 | exact y1 | exact y2 | go_keep) (first
              | (go_at_call 10; refine ((HG1.out.below ((Below.refl _ wa).drew)).conf1 N).mono ?_; rintro e w3 ⟨rfl, hG3⟩; have HG3 := hid hG3; have y1 : w3.cell? ⟨gt, 1, none⟩ = some (.int .i64 N) := (hG3.at (g := gt) (T := 41) (cs := [.int .i64 1, .int .i64 N, .string tx]) (by simp)).cell 1; clear hG3)
              | (go_at_call 11; refine (HG3.out.conf2 N).mono ?_; rintro e w5 ⟨rfl, hG5⟩; have HG5 := hid hG5; have y2 : w5.cell? ⟨gt, 1, none⟩ = some (.int .i64 N) := (hG5.at (g := gt) (T := 41) (cs := [.int .i64 1, .int .i64 N, .string tx]) (by simp)).cell 1; clear hG5))
            go_wp2_with fail
            go_meet
            case rel => exact ⟨by simp, sd.conf N, rc, out, K, HG5.out.less, by omega, by have := HNX.out; omega, by rw [HBS.out]; have := HOL.out; omega, HSZ.out⟩
        by_cases e2 : kd = 2
        · subst e2
          as_aux_lemma =>
            by_cases hkN : keyOk N = true
            · have hm1 := HG1.out.move1 hkN
              have HM1 := hid hm1
              have hal : (sd.again N).length ≤ j := by
                rw [SdM.again_length]
                have : sd.beg + sd.wait.length ≤ j := hnx
                omega
              have HKN := hid hkN
              obtain ⟨A, eA⟩ : ∃ A, A = (sd.again N).length := ⟨_, rfl⟩
              have hAj : A ≤ j := by rw [eA]; exact hal
              have HEA := hid eA
              clear hm1 hal hkN eA
              go_wp2_with (first
                | (go_at_call 12; refine HM1.out.mono ?_; rintro e w3 ⟨a3, n3, c3, rfl, hn3, hG3⟩; obtain rfl : n3 = A := hn3.trans HEA.out.symm; have n1 : w3.cell? ⟨gt, 1, none⟩ = some (.int .i64 N) := (hG3.at (g := gt) (T := 41) (cs := [.int .i64 2, .int .i64 N, .string tx]) (by simp)).cell 1; have hm2 := hG3.move2 HKN.out; have HM2 := hid hm2; clear hm2 hG3 hn3)
                | (go_at_call 13; refine HM2.out.mono ?_; rintro e w5 ⟨a5, n5, c5, rfl, hn5, hG5⟩; obtain rfl : n5 = n3 := hn5.trans HEA.out.symm; have HG5 := hid hG5; clear hG5 hn5))
              have hx5 := (HG5.out.beside (c := pksC (.slice a3 n5 c3) (sd.again N)) (F := ownB (.slice a3 n5 c3)) (by simp)).2
              have hy5 := (HG5.out.beside (c := pksC (.slice a5 n5 c5) (sd.again N)) (F := ownB (.slice a5 n5 c5)) (by simp)).2
              have HX5 := hid (row_pks hx5)
              have HY5 := hid (row_pks hy5)
              have HYR := hid hy5
              clear hx5 hy5
              go_loopw [14, 23] (fun ok i wz => ∃ q : Nat, q ≤ n5 ∧ i = .int .i64 q ∧ ok = .bool true ∧ Below w5.heap.size w5 wz) (fun _ i _ => n5 - (intOf i).toNat)
              case atStart => exact ⟨0, Nat.zero_le _, rfl, by first | rfl | simp, Below.refl _ _⟩
              case round =>
                obtain ⟨q, hq, rfl, rfl, hbq⟩ := hrel
                by_cases hq2 : q < n5
                · obtain ⟨b3, o3, rfl, hc3⟩ := (HX5.out.kept (S := []) (Kept.of_below hbq) (fun x _ => by simp)) (by intro e; have := HEA.out; rw [e] at this; simp at this; omega)
                  obtain ⟨b5, o5, rfl, hc5⟩ := (HY5.out.kept (S := []) (Kept.of_below hbq) (fun x _ => by simp)) (by intro e; have := HEA.out; rw [e] at this; simp at this; omega)
                  obtain ⟨x0, x1, x2⟩ := hc3 q (by rw [← HEA.out]; exact hq2)
                  obtain ⟨y0, y1, y2⟩ := hc5 q (by rw [← HEA.out]; exact hq2)
                  generalize (sd.again N).getD q .zero = P at *
                  obtain ⟨rx, ry, rz⟩ := P
                  dsimp only at x0 x1 x2 y0 y1 y2
                  clear hc3 hc5
                  go_upto_region 30 with fail
                  go_quiet (fail)
                  go_wp2_with fail
                  exact ⟨⟨q + 1, by omega, by go_num, by first | rfl | simp, below_drewNG hbq _⟩, by simp [intOf]; omega⟩
                · obtain rfl : q = n5 := by omega
                  have hG7 := HG5.out.below hbq
                  obtain ⟨ao', n', co', w8, hAp, hn', hG8⟩ := hG7.join (row_kept HYR.out (S := []) (Kept.of_below hbq) (by simp)) (by have := HOL.out; have := HEO.out; have := HEA.out; omega)
                  have HG8 := hid hG8
                  have HN' := hid hn'
                  clear hG7 hG8 hn'
                  go_wp2_with (at_builtin; refine wpList_bi2 _ rfl .append _ _ 39 39 rfl (.slice ao O co) (.slice a5 q c5) rfl rfl (bi_append hAp) ?_)
                  go_meet
                  case rel =>
                    refine ⟨rfl, sd.move N, rc, out ++ sd.again N, K, HG8.out.less, by omega, by show sd.nxt ≤ j + 1; omega, ?_, fun p hp => ?_⟩
                    · rw [List.length_append, HBS.out, ← HEA.out]
                      have := HOL.out
                      omega
                    · rcases List.mem_append.1 hp with hp | hp
                      · exact HSZ.out p hp
                      · exact again_small HG8.out.ok1.1 p hp
            · have hkN' : keyOk N = false := by simpa using hkN
              have hm1 := gmove_bad (w := wa) (p := ⟨gs, 0, none⟩) hkN'
              have hm2 := fun wz => rmove_bad (w := wz) (p := ⟨ga, 0, none⟩) hkN'
              clear hkN hkN'
              go_wp2_with (first
                | (go_at_call 12; refine hm1.mono ?_; rintro e w3 ⟨rfl, hb3⟩; have n1 : w3.cell? ⟨gt, 1, none⟩ = some (.int .i64 N) := ((HG1.out.below hb3).at (g := gt) (T := 41) (cs := [.int .i64 2, .int .i64 N, .string tx]) (by simp)).cell 1)
                | (go_at_call 13; refine (hm2 _).mono ?_; rintro e w5 ⟨rfl, hb5⟩))
              have hG5 := HG1.out.below (bthen hb3 hb5)
              have hAp := hG5.joinNil
              have HG5 := hid hG5
              clear hG5
              go_loopw [14, 23] (fun ok i wz => i = .int .i64 0 ∧ ok = .bool true ∧ wz = w5) (fun _ _ _ => 0)
              case atStart => exact ⟨rfl, by first | rfl | simp, rfl⟩
              case round =>
                obtain ⟨rfl, rfl, rfl⟩ := hrel
                go_wp2_with (at_builtin; refine wpList_bi2 _ rfl .append _ _ 39 39 rfl (.slice ao O co) (.slice none 0 0) rfl rfl (bi_append hAp) ?_)
                go_meet
                case rel => exact ⟨rfl, sd, rc, out, K, HG5.out.less, by omega, by omega, by rw [HBS.out]; have := HOL.out; omega, HSZ.out⟩
        by_cases e3 : kd = 3
        · subst e3
          as_aux_lemma =>
            have hcase : ∀ (P : PktM) (wb : World) (gx : Nat), Gp w wb ⟨gs, gr, bm, ga, gb⟩ sd rc sd rc K (.slice ao O co) out [(atC gt 41 [.int .i64 3, .int .i64 N, .string tx], [gt]), (atC gx 43 [.int .i64 P.short, .string P.data, .string P.sl], [gx])] → P.sl.size ≤ 2000000 → P.data.size ≤ 2000000 → 
                (∃ E n, Calls Try.prog 14 #[.pointer (some ⟨gr, 0, none⟩), P.val] wb fun e w3 => ∃ a3 c3, e = .returned (.tuple #[.slice a3 n c3, .int .i64 E]) ∧ At w3 gx 43 [.int .i64 P.short, .string P.data, .string P.sl] ∧ Calls Try.prog 15 #[.pointer (some ⟨gb, 0, none⟩), P.val] w3 fun e w5 => ∃ a5 c5, e = .returned (.tuple #[.slice a5 n c5, .int .i64 E]) ∧ Calls Try.prog 16 #[.slice a3 n c3, .slice a5 n c5] w5 fun e w7 => e = .returned (.bool true) ∧ GpAt w ⟨gs, gr, bm, ga, gb⟩ (j + 1) (.slice ao O co) w7) := fun P wb gx hGb hz1 hz2 => by
              by_cases he : takeErr rc P = 0
              · have hok := hGb.ok1.2
                obtain ⟨q1, q2, q3, q4⟩ := takeErr_zero he
                obtain ⟨q5, q6⟩ := cntErr_zero q4
                have hcb := cntIn_bd q2
                have hok' := hok.put (p := P) (by unfold GcM.cnt; omega) q5
                obtain ⟨n, hn⟩ := run_ex (rc.put P).M 16777216 (hok'.top _ (Nat.le_refl _)) (16777216 - rc.fst) rc.fst (by have := hok.few; omega)
                have hnl9 : n ≤ 16777216 := by have := RunG.le hok' hn; omega
                refine ⟨0, n, (hGb.take1_ok P he hn).mono ?_⟩
                rintro e w3 ⟨a3, c3, rfl, hG3⟩
                refine ⟨a3, c3, rfl, hG3.at (by simp), (hG3.take2_ok P he (by omega) hn).mono ?_⟩
                rintro e w5 ⟨a5, c5, rfl, hT5, hG5⟩
                have hT3 := row_txs (hG5.beside (c := txsC (.slice a3 n c3) (toldG (rc.put P).M rc.fst n)) (F := ownB (.slice a3 n c3)) (by simp)).2
                refine ⟨a5, c5, rfl, (same_any (ca := c3) (cb := c5) hT3 hT5 (toldG_length _ _ _) (by omega)).mono ?_⟩
                rintro e w7 ⟨rfl, hb7⟩
                exact ⟨rfl, sd, (rc.put P).cut n, out, K + 1, (hG5.below hb7).less, by omega, by omega, by rw [HBS.out]; have := HOL.out; omega, HSZ.out⟩
              · refine ⟨takeErr rc P, 0, (hGb.take1_bad P (by omega) (by omega) he).mono ?_⟩
                rintro e w3 ⟨rfl, hG3⟩
                refine ⟨none, 0, rfl, hG3.at (by simp), (hG3.take2_bad P (by omega) (by omega) he (by omega)).mono ?_⟩
                rintro e w5 ⟨rfl, hG5⟩
                refine ⟨none, 0, rfl, (same_any (l := []) (n := 0) (ca := 0) (cb := 0) (fun h => absurd rfl h) (fun h => absurd rfl h) rfl (by omega)).mono ?_⟩
                rintro e w7 ⟨rfl, hb7⟩
                exact ⟨rfl, sd, rc, out, K, (hG5.below hb7).less, by omega, by omega, by rw [HBS.out]; have := HOL.out; omega, HSZ.out⟩
            have HCA := hid hcase
            clear hcase
            have hGn := HG1.out.lay 43 [.int .i64 N, .string tx, .string tx]
            change Gp w (wa.alloc (.cells #[.int .i64 N, .string tx, .string tx] 43)) _ _ _ _ _ _ _ _ _ at hGn
            have haT := hGn.at (g := gt) (T := 41) (cs := [.int .i64 3, .int .i64 N, .string tx]) (by simp)
            have n1 : (wa.alloc (.cells #[.int .i64 N, .string tx, .string tx] 43)).cell? ⟨gt, 1, none⟩ = some (.int .i64 N) := haT.cell 1
            have n2 : (wa.alloc (.cells #[.int .i64 N, .string tx, .string tx] 43)).cell? ⟨gt, 2, none⟩ = some (.string tx) := haT.cell 2
            by_cases hin : 0 ≤ N ∧ N < (O : Int)
            · obtain ⟨q, eq⟩ : ∃ q : Nat, N = (q : Int) := ⟨N.toNat, by omega⟩
              have hqO : q < O := by omega
              have hqo : q < out.length := by rw [← HEO.out]; exact hqO
              obtain ⟨bo, oo, rfl, hco⟩ := row_pks HG1.out.out (by intro e; rw [e] at hqo; simp at hqo)
              obtain ⟨x0, x1, x2⟩ := hco q hqo
              obtain ⟨hsl3, hdl3⟩ := HSZ.out (out.getD q .zero) (by rw [List.getD_eq_getElem?_getD, List.getElem?_eq_getElem hqo]; exact List.getElem_mem _)
              generalize out.getD q .zero = P at *
              obtain ⟨px, py, pz⟩ := P
              dsimp only at x0 x1 x2 hsl3 hdl3
              have hkw := fun x y z => (Kept.refl [] wa).alloc (.cells #[x, y, z] 43)
              have v0 := fun x y z => keptCellQ (hkw x y z) x0 (by simp)
              have v1 := fun x y z => keptCellQ (hkw x y z) x1 (by simp)
              have v2 := fun x y z => keptCellQ (hkw x y z) x2 (by simp)
              have u1 := fun x y z => keptCellQ (hkw x y z) m1 (by simp)
              have u2 := fun x y z => keptCellQ (hkw x y z) m2 (by simp)
              have hGn2 := HG1.out.lay 43 [.int .i64 px, .string py, .string (pz ++ tx)]
              have hpz : (pz ++ tx).size ≤ 2000000 := by rw [ByteArray.size_append]; omega
              have hct := HCA.out ⟨px, py, pz ++ tx⟩ _ wa.heap.size hGn2 hpz (by show py.size ≤ 2000000; omega)
              dsimp only [PktM.val] at hct
              obtain ⟨E, n, hct⟩ := hct
              change Calls _ _ _ (wa.alloc (.cells #[.int .i64 px, .string py, .string (pz ++ tx)] 43)) _ at hct
              have HCT := hid hct
              subst eq
              clear hct hGn haT hGn2 hco n1 n2 hkw x0 x1 x2 m0 hpz hin
              go_wp2_with (first
                | (go_at_call 14; refine HCT.out.mono ?_; rintro e w3 ⟨a3, c3, rfl, hA3, hc3⟩; have HC3 := hid hc3; clear hc3; have p0 : w3.cell? ⟨wa.heap.size, 0, none⟩ = some (.int .i64 px) := hA3.cell 0; have p1 : w3.cell? ⟨wa.heap.size, 1, none⟩ = some (.string py) := hA3.cell 1; have p2 : w3.cell? ⟨wa.heap.size, 2, none⟩ = some (.string (pz ++ tx)) := hA3.cell 2)
                | (go_at_call 15; refine HC3.out.mono ?_; rintro e w5 ⟨a5, c5, rfl, hc5⟩; have HC5 := hid hc5; clear hc5)
                | (go_at_call 16; refine HC5.out.mono ?_; rintro e w7 ⟨rfl, hG7⟩))
              go_meet
              case rel => exact ⟨by simp, hG7⟩
            · have hct := HCA.out ⟨N, tx, tx⟩ _ wa.heap.size hGn (by show tx.size ≤ 2000000; omega) (by show tx.size ≤ 2000000; omega)
              dsimp only [PktM.val] at hct
              obtain ⟨E, n, hct⟩ := hct
              have HCT := hid hct
              clear hct hGn haT
              by_cases hN0 : 0 ≤ N
              · have hNO : ¬ N < (O : Int) := by omega
                go_wp2_with (first
                  | (go_at_call 14; refine HCT.out.mono ?_; rintro e w3 ⟨a3, c3, rfl, hA3, hc3⟩; have HC3 := hid hc3; clear hc3; have p0 : w3.cell? ⟨wa.heap.size, 0, none⟩ = some (.int .i64 N) := hA3.cell 0; have p1 : w3.cell? ⟨wa.heap.size, 1, none⟩ = some (.string tx) := hA3.cell 1; have p2 : w3.cell? ⟨wa.heap.size, 2, none⟩ = some (.string tx) := hA3.cell 2)
                  | (go_at_call 15; refine HC3.out.mono ?_; rintro e w5 ⟨a5, c5, rfl, hc5⟩; have HC5 := hid hc5; clear hc5)
                  | (go_at_call 16; refine HC5.out.mono ?_; rintro e w7 ⟨rfl, hG7⟩))
                go_meet
                case rel => exact ⟨by simp, hG7⟩
              · go_wp2_with (first
                  | (go_at_call 14; refine HCT.out.mono ?_; rintro e w3 ⟨a3, c3, rfl, hA3, hc3⟩; have HC3 := hid hc3; clear hc3; have p0 : w3.cell? ⟨wa.heap.size, 0, none⟩ = some (.int .i64 N) := hA3.cell 0; have p1 : w3.cell? ⟨wa.heap.size, 1, none⟩ = some (.string tx) := hA3.cell 1; have p2 : w3.cell? ⟨wa.heap.size, 2, none⟩ = some (.string tx) := hA3.cell 2)
                  | (go_at_call 15; refine HC3.out.mono ?_; rintro e w5 ⟨a5, c5, rfl, hc5⟩; have HC5 := hid hc5; clear hc5)
                  | (go_at_call 16; refine HC5.out.mono ?_; rintro e w7 ⟨rfl, hG7⟩))
                go_meet
                case rel => exact ⟨by simp, hG7⟩
        by_cases e4 : kd = 4
        · subst e4
          as_aux_lemma =>
            by_cases hkN : keyOk N = true
            · have hq := fun wz => rkey_any N wz
              rw [hkN] at hq
              have hg2 := HG1.out.rmove2 hkN
              have hf2 := HG1.out.first2
              have z0 := hf2.2.1
              have z1 := hf2.2.2
              have n1 : (wa.setCell ⟨gb, 0, none⟩ (.int .i64 N)).cell? ⟨gt, 1, none⟩ = some (.int .i64 N) := (hg2.at (g := gt) (T := 41) (cs := [.int .i64 4, .int .i64 N, .string tx]) (by simp)).cell 1
              have hm1 := hg2.rmove1 hkN
              have HM1 := hid hm1
              clear hg2 hf2 hm1
              go_wp2_with (first
                | (go_at_call 7; refine (hq _).mono ?_; rintro e w3 ⟨rfl, rfl⟩)
                | (go_at_call 17; refine HM1.out.mono ?_; rintro e w5 ⟨rfl, hG5⟩; have HG5 := hid hG5; clear hG5))
              go_meet
              case rel => exact ⟨rfl, sd, rc.move N, out, K, HG5.out.less, by omega, by omega, by rw [HBS.out]; have := HOL.out; omega, HSZ.out⟩
            · have hkN' : keyOk N = false := by simpa using hkN
              have hq := fun wz => rkey_any N wz
              rw [hkN'] at hq
              have hm1 := grmove_bad (w := wa) (p := ⟨gr, 0, none⟩) hkN'
              clear hkN hkN'
              go_wp2_with (first
                | (go_at_call 7; refine (hq _).mono ?_; rintro e w3 ⟨rfl, rfl⟩)
                | (go_at_call 17; refine hm1.mono ?_; rintro e w5 ⟨rfl, hb5⟩))
              go_meet
              case rel => exact ⟨rfl, sd, rc, out, K, (HG1.out.below hb5).less, by omega, by omega, by rw [HBS.out]; have := HOL.out; omega, HSZ.out⟩
        by_cases e5 : kd = 5
        · subst e5
          as_aux_lemma =>
            obtain ⟨ks, hks⟩ := steps_ex HG1.out.ok1.2.top (16777216 - rc.fst) rc.fst (by have := HG1.out.ok1.2.few; omega)
            have hkl := (steps_end HG1.out.ok1.2.top ks rc.fst hks HG1.out.ok1.2.few).2.2
            have hf1 := HG1.out.flush1 hks
            have HKS := hid hks
            have HF1 := hid hf1
            obtain ⟨L, eL⟩ : ∃ L, L = ks.length := ⟨_, rfl⟩
            have hkl2 : L ≤ 16777216 := by omega
            have HEL := hid eL
            clear hks hf1 hkl eL
            go_wp2_with (first
              | (go_at_call 18; refine HF1.out.mono ?_; rintro e w3 ⟨a3, n3, c3, rfl, hn3, hG3⟩; obtain rfl : n3 = L := hn3.trans HEL.out.symm; have hf2 := hG3.flush2 HKS.out (by omega); have HF2 := hid hf2; clear hf2 hG3 hn3)
              | (go_at_call 19; refine HF2.out.mono ?_; rintro e w5 ⟨a5, n5, c5, rfl, hn5, hT5, hG5⟩; have hT3 := row_txs (hG5.beside (c := txsC (.slice a3 n3 c3) (textsG rc.M ks)) (F := ownB (.slice a3 n3 c3)) (by simp)).2; obtain rfl : n5 = n3 := hn5.trans HEL.out.symm; have hsm := same_any (ca := c3) (cb := c5) hT3 hT5 (show (textsG rc.M ks).length = n5 by rw [textsG_length, HEL.out]) (by omega); have HSM := hid hsm; have HG5 := hid hG5; clear hsm hG5 hT3 hT5 hn5)
              | (go_at_call 16; refine HSM.out.mono ?_; rintro e w7 ⟨rfl, hb7⟩))
            go_meet
            case rel => exact ⟨rfl, sd, rc.cutTo (endG rc.fst ks), out, K, (HG5.out.below hb7).less, by omega, by omega, by rw [HBS.out]; have := HOL.out; omega, HSZ.out⟩
        have b0 : (kd == 0) = false := by simpa using e0
        have b1 : (kd == 1) = false := by simpa using e1
        have b2 : (kd == 2) = false := by simpa using e2
        have b3 : (kd == 3) = false := by simpa using e3
        have b4 : (kd == 4) = false := by simpa using e4
        have b5 : (kd == 5) = false := by simpa using e5
        clear e0 e1 e2 e3 e4 e5
        go_wp2_with fail
        go_meet
        case rel => exact ⟨rfl, sd, rc, out, K, HG1.out.less, by omega, by omega, by rw [HBS.out]; have := HOL.out; omega, HSZ.out⟩
      case rest =>
        obtain ⟨rfl, sd', rc', out', K', hG', hr1, hr2, hr3, hr4⟩ := hcut
        obtain ⟨ao', co', rfl, -, -, -⟩ := row_shape hG'.out
        have hc0 := hG'.first2.1
        have hcN : ∀ q, Calls Try.prog 20 #[.pointer (some ⟨gr, 0, none⟩)] (wc.drewN q) fun e w' => e = .returned (.int .i64 (rc'.fst : Int)) ∧ w' = wc.drewN q := fun q => by
          have h8 := (hG'.below (below_drewNG (Below.refl _ wc) q)).count1
          exact h8.mono fun e w' ⟨a, b⟩ => ⟨a, b.symm⟩
        have HG' := hid hG'
        have HR3 := hid hr3
        have HR4 := hid hr4
        clear hG' hr3 hr4 HG1 HOL HSZ HEW HEG t0 t1 t2
        go_upto_region 48 with fail
        go_quiet (first | (go_at_call 20; exact Calls.quiet_of_same (hcN _)))
        go_wp2_with fail
        exact ⟨⟨j + 1, by omega, by go_num, sd', rc', out', K', HG'.out.below (below_drewNG (Below.refl _ wc) _), hr1, hr2, HR3.out, HR4.out⟩, by simp [intOf]; omega⟩
    · obtain rfl : j = nl := by omega
      obtain ⟨sd, rc, out, K, hG, -⟩ := hA
      have HB := hid hG.bel
      clear hG
      go_wp2_with fail
      go_ret
      exact ⟨rfl, HB.out⟩
end Go.Proofs.Ytbmdjfolfmgmmag
