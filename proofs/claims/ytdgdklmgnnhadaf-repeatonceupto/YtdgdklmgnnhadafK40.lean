import Derived.Test.YtdgdklmgnnhadafK26
import Derived.Deep.CutBlock
import Derived.Deep.CutRange
import Derived.Test.YtdgdklmgnnhadafK31
namespace Go.Proofs.Ytdgdklmgnnhadaf
open Go.ChangeShapes Go.WideShapes Go.ChangeAt Go.RowKit
theorem and_lowR (x : Int) (i : Nat) (hi : i ≤ 62) : bits BinOp.and IntKind.i64 x (2 ^ i - 1) = x % 2 ^ i := by
  have hp : (0 : Int) < 2 ^ i := Int.pow_pos (by decide)
  have hle : (2 : Int) ^ i ≤ 2 ^ 62 := by exact_mod_cast Nat.pow_le_pow_right (by decide) hi
  have hnat : 2 ^ i - 1 < 2 ^ 64 := by
    have : 2 ^ i ≤ 2 ^ 62 := Nat.pow_le_pow_right (by decide) hi
    omega
  have hc : ((2 : Int) ^ i - 1) = ((2 ^ i - 1 : Nat) : Int) := by
    rw [Int.natCast_sub (Nat.two_pow_pos i)]; simp
  rw [hc]
  have hb : bits BinOp.and IntKind.i64 x ((2 ^ i - 1 : Nat) : Int) = IntKind.i64.wrap (((x % ((2 ^ 64 : Nat) : Int)).toNat % 2 ^ i : Nat) : Int) := by
    have e1 : (BitVec.ofInt 64 x &&& BitVec.ofInt 64 ((2 ^ i - 1 : Nat) : Int)).toNat = (x % ((2 ^ 64 : Nat) : Int)).toNat % 2 ^ i := by
      rw [BitVec.toNat_and, BitVec.ofInt_natCast, BitVec.toNat_ofNat, BitVec.toNat_ofInt, Nat.mod_eq_of_lt hnat, Nat.and_two_pow_sub_one_eq_mod]
    exact congrArg (fun n : Nat => IntKind.i64.wrap (n : Int)) e1
  rw [hb]
  have h0 : 0 ≤ x % ((2 ^ 64 : Nat) : Int) := Int.emod_nonneg _ (by decide)
  have e : (((x % ((2 ^ 64 : Nat) : Int)).toNat % 2 ^ i : Nat) : Int) = x % 2 ^ i := by
    rw [Int.natCast_emod, Int.toNat_of_nonneg h0]
    have hd : ((2 ^ i : Nat) : Int) ∣ ((2 ^ 64 : Nat) : Int) := Int.natCast_dvd_natCast.2 (Nat.pow_dvd_pow 2 (by omega))
    rw [Int.emod_emod_of_dvd _ hd]
    simp
  rw [e, IntKind.wrap_i64]
  have h1 := Int.emod_nonneg x (Int.ne_of_gt hp)
  have h2 := Int.emod_lt_of_pos x hp
  omega
theorem and63R (x : Int) : bits BinOp.and IntKind.i64 x 63 = x % 64 := and_lowR x 6 (by decide)
structure FateM where
  size : Int
  pick : Int
  lost : Bool
def FateM.zero : FateM := ⟨0, 0, false⟩
/-- Fates that can be read. -/
def Fts (w : World) (a : Option Addr) (l : List FateM) : Prop := l ≠ [] → ∃ b o, a = some ⟨b, o, none⟩ ∧ ∀ i, i < l.length → w.cell? ⟨b, o + i * 3, none⟩ = some (.int .i64 (l.getD i .zero).size) ∧ w.cell? ⟨b, o + i * 3 + 1, none⟩ = some (.int .i64 (l.getD i .zero).pick) ∧ w.cell? ⟨b, o + i * 3 + 2, none⟩ = some (.bool (l.getD i .zero).lost)
theorem Fts.at {w : World} {a : Option Addr} {l : List FateM} (h : Fts w a l) {i : Nat} (hi : i < l.length) : ∃ b o, a = some ⟨b, o, none⟩ ∧ ∀ i, i < l.length → w.cell? ⟨b, o + i * 3, none⟩ = some (.int .i64 (l.getD i .zero).size) ∧ w.cell? ⟨b, o + i * 3 + 1, none⟩ = some (.int .i64 (l.getD i .zero).pick) ∧ w.cell? ⟨b, o + i * 3 + 2, none⟩ = some (.bool (l.getD i .zero).lost) := h (by rintro rfl; simp at hi)
theorem cellB {w w' : World} (hb : Below w.heap.size w w') {p : Addr} {v : Value} (h : w.cell? p = some v) : w'.cell? p = some v := (hb.cell (World.block_lt_of_cell? w _ h)).trans h
theorem Kept.below' {S : List Nat} {w w' : World} (h : Kept S w w') {a : Addr} {v : Value} (hn : a.block ∉ S) (hc : w.cell? a = some v) : w'.cell? a = some v := keptCellQ h hc hn
theorem Su.new {Snd : World → Addr → List Nat → OutM → Prop} {Rcv : World → Addr → List Nat → InM → Prop} (L : RepLaws Snd Rcv) {p q : Addr} {w w1 w2 : World} {F G : List Nat} {m : OutM} {r : InM} (hs : Snd w1 p F m) (hF : ∀ x ∈ F, w.heap.size ≤ x) (hb1 : Below w.heap.size w w1) (hr : Rcv w2 q G r) (hG : ∀ x ∈ G, w1.heap.size ≤ x) (hb2 : Below w1.heap.size w1 w2) (hp : Pair m r) :
    Su Snd Rcv p q w2.heap.size (w2.heap.size + 1) w.heap.size w ((w2.alloc (.cells #[.pointer (some q)] 47)).alloc (.cells #[.slice none 0 0] 67)) F G m r (.slice none 0 0) [] := by
  have hbA : Below w2.heap.size w2 ((w2.alloc (.cells #[.pointer (some q)] 47)).alloc (.cells #[.slice none 0 0] 67)) := ((Below.refl _ w2).alloc (Nat.le_refl _) _).alloc (by simp) _
  have hs2 := L.skept hs (Kept.of_below (S := []) hb2) (by simp)
  have e1 := hb1.size
  have e2 := hb2.size
  have lF := L.slt hs
  have lG := L.rlt hr
  refine ⟨L.skept hs2 (Kept.of_below (S := []) hbA) (by simp), L.rkept hr (Kept.of_below (S := []) hbA) (by simp), hp, heap_alloc2_old w2 _ _, ?_, World.ownsRow_nil _ _ _ _, ?_, ?_, ?_, ?_, ?_, by omega, fun g e => (by cases e), hF, ?_, by omega, ?_, ?_⟩
  · have := heap_alloc_new (w2.alloc (.cells #[.pointer (some q)] 47)) (.cells #[.slice none 0 0] 67)
    rw [show (w2.alloc (.cells #[.pointer (some q)] 47)).heap.size = w2.heap.size + 1 by simp] at this
    exact this
  · intro x hx hy
    have := lF x hx; have := hG x hy; omega
  · intro e; have := lF _ e; omega
  · intro e; have := lG _ e; omega
  · intro e; have := lF _ e; omega
  · intro e; have := lG _ e; omega
  · intro x hx; have := hG x hx; omega
  · simp; omega
  · exact (hb1.trans (hb2.mono e1)).trans (hbA.mono (by omega))
/-- The pieces that came out. -/
def Knw (m : OutM) (outs : List PieceM) (us : List Nat) (k : Nat) : Prop := outs.length = us.length ∧ us.length ≤ k ∧ ∀ j, j < us.length → Known m (us.getD j 0) (outs.getD j .zero)
theorem Knw.new (m : OutM) (k : Nat) : Knw m [] [] k := ⟨rfl, Nat.zero_le _, fun j hj => absurd hj (Nat.not_lt_zero j)⟩
theorem Knw.mono {m : OutM} {outs : List PieceM} {us : List Nat} {k k' : Nat} (h : Knw m outs us k) (hk : k ≤ k') : Knw m outs us k' := ⟨h.1, Nat.le_trans h.2.1 hk, h.2.2⟩
theorem Knw.taken {m : OutM} {outs : List PieceM} {us : List Nat} {k d : Nat} {gs : List GapM} (h : Knw m outs us k) : Knw (m.taken d gs) outs us k := ⟨h.1, h.2.1, fun j hj => (h.2.2 j hj).taken⟩
theorem Knw.sends {m : OutM} {r : InM} {x : OutP} {u : Nat} {outs : List PieceM} {us : List Nat} {k : Nat} (h : Knw m outs us k) (hs : Sends m r x u) : Knw x.m (outs ++ [x.p]) (us ++ [u]) (k + 1) := by
  refine ⟨by rw [List.length_append, List.length_append, h.1]; rfl, by rw [List.length_append]; have := h.2.1; simp; omega, fun j hj => ?_⟩
  rw [List.length_append] at hj
  have h1 := h.1
  by_cases e : j < us.length
  · have e1 : (us ++ [u]).getD j 0 = us.getD j 0 := by
      rw [List.getD_eq_getElem?_getD, List.getD_eq_getElem?_getD, List.getElem?_append_left e]
    have e2 : (outs ++ [x.p]).getD j .zero = outs.getD j .zero := by
      rw [List.getD_eq_getElem?_getD, List.getD_eq_getElem?_getD, List.getElem?_append_left (by omega)]
    rw [e1, e2]
    exact hs.old _ _ (h.2.2 j e)
  · have ej : j = us.length := by simp at hj; omega
    have e1 : (us ++ [u]).getD j 0 = u := by
      rw [List.getD_eq_getElem?_getD, ej, List.getElem?_append_right (Nat.le_refl _)]; simp
    have e2 : (outs ++ [x.p]).getD j .zero = x.p := by
      rw [List.getD_eq_getElem?_getD, ej, ← h1, List.getElem?_append_right (Nat.le_refl _)]; simp
    rw [e1, e2]
    exact hs.known
theorem row_nums {w : World} {B n c : Nat} {T : TypeId} {a : Option Addr} {l : List Nat} (h : w.ownsRow B T 1 (.slice a n c) l.length (l.map fun (x : Nat) => Value.int .i64 x)) {i : Nat} (hi : i < l.length) : ∃ g, a = some ⟨g, 0, none⟩ ∧ w.cell? ⟨g, i, none⟩ = some (.int .i64 ((l.getD i 0 : Nat) : Int)) := by
  rcases h.2 with ⟨h', h0⟩ | ⟨g, cap, cur, h', _, hg, _, _, _, ht⟩
  · omega
  · simp only [Value.slice.injEq] at h'
    obtain ⟨rfl, _, _⟩ := h'
    refine ⟨g, rfl, ?_⟩
    have hat : cur[i]? = (l.map fun (x : Nat) => Value.int .i64 x)[i]? := by
      rw [← ht, List.getElem?_take_of_lt (by omega)]
      simp
    rw [cell_of_row _ _ _ _ _ _ hg, hat]
    simp [List.getD, hi]
/-- A piece in a block. -/
def PBx (w : World) (g : Nat) (x : PieceM) : Prop := w.heap[g]? = some (.cells #[.int .i64 x.num, .int .i64 x.frm, .bool x.last, .string x.data] 64 (0, 0))
theorem PBx.cells {w : World} {g : Nat} {x : PieceM} (h : PBx w g x) : w.cell? ⟨g, 0, none⟩ = some (.int .i64 x.num) ∧ w.cell? ⟨g, 1, none⟩ = some (.int .i64 x.frm) ∧ w.cell? ⟨g, 2, none⟩ = some (.bool x.last) ∧ w.cell? ⟨g, 3, none⟩ = some (.string x.data) := by
  refine ⟨?_, ?_, ?_, ?_⟩ <;> rw [cell_of_row _ _ _ _ _ _ h] <;> rfl
theorem PBx.kept {w w' : World} {g : Nat} {x : PieceM} {S : List Nat} (h : PBx w g x) (hk : Kept S w w') (hn : g ∉ S) : PBx w' g x := (hk.block g (ltOf h) hn).trans h
theorem PBx.rows {w : World} {g : Nat} {x : PieceM} (h : PBx w g x) (j : Nat) (u : Value) (hj : x.cells[j]? = some u) : w.cell? ⟨g, j, none⟩ = some u := by
  rw [cell_of_row _ _ _ _ _ _ h]
  simpa [PieceM.cells] using hj
set_option maxRecDepth 100000 in
set_option maxHeartbeats 1000000 in
theorem ronce_bad {Snd : World → Addr → List Nat → OutM → Prop} {Rcv : World → Addr → List Nat → InM → Prop} (L : RepLaws Snd Rcv) (win : Int) (v1 v2 : Value) (w : World) (hw : win < 1 ∨ 32 < win) : Calls Try.prog 6 #[.int .i64 win, v1, v2] w fun e w' => e = .returned (.bool true) ∧ Below w.heap.size w w' := by
  have hsn := fun wz => L.snewBad win wz hw
  have hrn := fun wz => L.rnewBad win wz hw
  clear hw
  go_enter Try.func6, Try.ntmps6
  go_wp2_with (first
    | (go_at_call 12; refine (hsn _).mono ?_; rintro e w1 ⟨rfl, hb1⟩)
    | (go_at_call 13; refine (hrn _).mono ?_; rintro e w2 ⟨rfl, hb2⟩))
  go_ret
  exact ⟨rfl, (hb1.trans (hb2.mono hb1.size)).alloc (Nat.le_trans hb1.size hb2.size) _⟩
set_option maxRecDepth 100000 in
set_option maxHeartbeats 20000000 in
theorem ronce_good {Snd : World → Addr → List Nat → OutM → Prop} {Rcv : World → Addr → List Nat → InM → Prop} (L : RepLaws Snd Rcv) (win : Int) (uts : List ByteArray) (fts : List FateM) (au af : Option Addr) (nu cu nf cf : Nat) (w : World) (h1 : 1 ≤ win) (h32 : win ≤ 32) (hU : Txs w au uts) (hnu : uts.length = nu) (hmu : nu ≤ maxLen) (hst : ∀ i, i < nu → (uts.getD i ByteArray.empty).size ≤ manyB) (hF : Fts w af fts) (hnf : fts.length = nf) (hmf : nf ≤ 3518437208883) :
    Calls Try.prog 6 #[.int .i64 win, .slice au nu cu, .slice af nf cf] w fun e w' => e = .returned (.bool true) ∧ Below w.heap.size w w' := by
  have hsn := fun wz => L.snew win wz h1 h32
  have hrn := fun wz => L.rnew win wz h1 h32
  have hpr : Pair (OutM.new win.toNat) (InM.new win.toNat) := Pair.new (by omega) (by omega)
  have HU := hid hU
  have HNU := hid hnu
  have HST := hid hst
  have HF := hid hF
  have HNF := hid hnf
  have hmu' : nu ≤ 9223372036854775807 := by unfold maxLen at hmu; omega
  clear hU hnu hst hF hnf h1 h32 hmu
  go_enter Try.func6, Try.ntmps6
  go_upto_block 0 with (first
    | (go_at_call 12; refine (hsn _).mono ?_; rintro e w1 ⟨p, F0, rfl, hs1, hF0, hb1⟩)
    | (go_at_call 13; refine (hrn _).mono ?_; rintro e w2 ⟨q, G0, rfl, hr2, hG0, hb2⟩))
  have HSU := hid (Su.new L hs1 hF0 hb1 hr2 hG0 hb2 hpr)
  clear hsn hrn hs1 hF0 hr2 hG0 hpr
  obtain ⟨rb, erb⟩ : ∃ rb, rb = w2.heap.size := ⟨_, rfl⟩
  obtain ⟨sb, esb⟩ : ∃ sb, sb = w2.heap.size + 1 := ⟨_, rfl⟩
  rw [← esb] at HSU
  rw [← erb] at HSU
  rw [← esb, ← erb]
  generalize (w2.alloc (.cells #[.pointer (some q)] 47)).alloc (.cells #[.slice none 0 0] 67) = w3 at *
  clear erb esb hb1 hb2
  have HM0 : Hid ((OutM.new win.toNat).n ≤ 0 ∧ (OutM.new win.toNat).beg = 0) := ⟨Nat.le_refl _, rfl⟩
  have HR0 : Hid ((InM.new win.toNat).fst = 0) := rfl
  replace HSU : Hid (Su Snd Rcv p q rb sb w.heap.size w w3 F0 G0 (OutM.new win.toNat) (InM.new win.toNat) (.slice none 0 0) (OutM.new win.toNat).text) := HSU
  generalize OutM.new win.toNat = m0 at *
  generalize InM.new win.toNat = r0 at *
  go_cut [12] from 23 (fun _ wx => ∃ (F : List Nat) (m : OutM) (v : Value), Hid (Su Snd Rcv p q rb sb w.heap.size w wx F G0 m r0 v m.text) ∧ Hid (m.n ≤ 50 ∧ m.beg = 0))
  case first =>
    go_wp2_with fail
    go_loopw [12] (fun vi wr => ∃ (k : Nat) (F : List Nat) (m : OutM) (v : Value), k ≤ nu ∧ k ≤ 50 ∧ vi = .int .i64 k ∧ Hid (Su Snd Rcv p q rb sb w.heap.size w wr F G0 m r0 v m.text) ∧ Hid (m.n ≤ k ∧ m.beg = 0)) (fun vi _ => 50 - (intOf vi).toNat)
    case atStart => exact ⟨0, F0, m0, _, by omega, by omega, rfl, HSU, HM0⟩
    case round =>
      clear HSU HM0
      obtain ⟨k, F, m, v, hk, hk5, rfl, HSU, HM⟩ := hrel
      by_cases hlt : k < nu ∧ k < 50
      · obtain ⟨hlt1, hlt2⟩ := hlt
        have x1 : decide ((k : Int) < (nu : Int)) = true := decide_eq_true (by omega)
        have x2 : decide ((k : Int) < 50) = true := decide_eq_true (by omega)
        obtain ⟨b, o, rfl, hC⟩ := HU.out.at (i := k) (by rw [HNU.out]; exact hlt1)
        have cw := hC k (by rw [HNU.out]; exact hlt1)
        have c0 := cellB HSU.out.bel cw
        have hsz := HST.out k hlt1
        generalize uts.getD k ByteArray.empty = s at *
        have hsub := L.submit s HSU.out.snd (by have := HM.out.1; unfold manyU; omega) hsz
        have hps := HSU.out.pair.submit s
        clear hC hsz
        rcases submit_cases m s with ⟨e1, e2⟩ | ⟨e1, e2, -, -⟩
        · have x3 : ((m.submit s).err == 0) = false := by rw [beq_eq_false_iff_ne]; exact e1
          rw [e2] at hsub hps
          generalize (m.submit s).err = er at *
          clear e1 e2
          go_wp2_with (go_at_call 14; refine hsub.mono ?_; rintro e w4 ⟨rfl, hk4, F4, hs4, hg4⟩)
          exact ⟨⟨k + 1, F4, m, v, by omega, by omega, by go_num, HSU.out.sends L hk4 hs4 hg4 hps, ⟨by have := HM.out.1; omega, HM.out.2⟩⟩, by simp [intOf]; omega⟩
        · have HT2 : Hid ((m.submit s).m.text = m.text ++ [s] ∧ (m.submit s).m.beg = m.beg) := by rw [e2]; exact ⟨rfl, rfl⟩
          rw [e1] at hsub
          clear e1 e2
          generalize (m.submit s).m = m2 at *
          go_upto_region 10 with (go_at_call 14; refine hsub.mono ?_; rintro e w4 ⟨rfl, hk4, F4, hs4, hg4⟩)
          have hS4 := HSU.out.sends L hk4 hs4 hg4 hps
          obtain ⟨row, er⟩ : ∃ row : Obj, row = .cells #[.string s] 9 := ⟨_, rfl⟩
          have hbr : Below w4.heap.size w4 (w4.alloc row) := (Below.refl _ w4).alloc (Nat.le_refl _) row
          have hS5 := hS4.mem L hbr.drew
          have hrow := heap_alloc_new w4 row
          have p0 : w4.cell? ⟨sb, 0, none⟩ = some v := by rw [cell_of_row _ _ _ _ _ _ hS4.sbx]; rfl
          have p1 : (w4.alloc row).cell? ⟨sb, 0, none⟩ = some v := cellB hbr p0
          rw [er] at hS5 hrow p1
          have c4 := hk4.below' (fun e => by have := HSU.out.bf _ e; have := World.block_lt_of_cell? w _ cw; omega) c0
          have c5 := cellB hbr c4
          rw [er] at c5
          have HR : Hid (∀ (j : Nat) u, ([.string s] : List Value)[j]? = some u → (w4.alloc (.cells #[.string s] 9)).drew.cell? ⟨w4.heap.size, j, none⟩ = some u) := fun j u hu => by
            rw [World.cell?_drew, cell_of_row _ _ _ _ _ _ hrow]
            simpa using hu
          have HS5 := hid hS5
          obtain ⟨i0, hi, hz0, hz1, hz2⟩ := info_parts Try.infoTx
          have hm50 := HM.out.1
          have HLN : Hid ((m.text.length + 1) * 16 ≤ 140737488355328) := by show _ ≤ _; unfold OutM.n at hm50; omega
          have HLM : Hid (m.text.length + 1 ≤ maxLen) := by show _ ≤ _; unfold maxLen; unfold OutM.n at hm50; omega
          have HI := hid hi
          have HZ0 := hid hz0
          have HZ1 := hid hz1
          have HZ2 := hid hz2
          clear er hrow hbr hS5 hS4 hk4 hs4 hg4 hi hz0 hz1 hz2 hm50 hps hsub
          go_region_law (refine step_pushR w.heap.size w4.heap.size Try.underlying67 HI.out HZ0.out HZ1.out HZ2.out rfl (by decide) HS5.out.own rfl (.tmp 67) (.tmp 72) rfl rfl rfl rfl HR.out (by intro u hu; simp at hu; subst hu; rfl) HLM.out HLN.out HS5.out.bw ?_; intro v3 w5 ho3 hg3 hl3; obtain ⟨a3, c3, ev3, -, -, -⟩ := row_shape ho3; subst ev3; obtain ⟨k0, kf, kS⟩ := HS5.out.pushed L hg3 ho3 hl3)
          all_goals
            go_wp2_with fail
            exact ⟨⟨k + 1, F4, m2, _, by omega, by omega, by go_num, hid (by rw [HT2.out.1]; exact kS), ⟨by unfold OutM.n; rw [HT2.out.1, List.length_append]; have := HM.out.1; unfold OutM.n at this; simp; omega, HT2.out.2.trans HM.out.2⟩⟩, by simp [intOf]; omega⟩
      · by_cases hlt1 : k < nu
        · have x1 : decide ((k : Int) < (nu : Int)) = true := decide_eq_true (by omega)
          have x2 : decide ((k : Int) < 50) = false := decide_eq_false (by omega)
          clear hlt
          go_wp2_with fail
          go_meet
          case rel => exact ⟨F, m, v, HSU, ⟨by have := HM.out.1; omega, HM.out.2⟩⟩
        · have x1 : decide ((k : Int) < (nu : Int)) = false := decide_eq_false (by omega)
          clear hlt
          go_wp2_with fail
          go_meet
          case rel => exact ⟨F, m, v, HSU, ⟨by have := HM.out.1; omega, HM.out.2⟩⟩
  case rest =>
    clear HSU HM0 HU HST HNU
    obtain ⟨F1, m1, v1, HSU, HM⟩ := hcut
    obtain ⟨asl, cs, ev, -, -, -⟩ := row_shape HSU.out.own
    subst ev
    have hbA1 : Below wc.heap.size wc (wc.alloc (.cells #[.int .i64 0] 3)) := (Below.refl _ wc).alloc (Nat.le_refl _) _
    have hA1 : ArrAt .i64 3 (wc.alloc (.cells #[.int .i64 0] 3)) wc.heap.size [(r0.fst : Int)] := by rw [HR0.out]; exact arr_new .i64 3 wc [0]
    have hcl1 := HSU.out.rounds L rfl hbA1 (Nat.le_refl _) hA1
    have hs1 : (wc.alloc (.cells #[.int .i64 0] 3)).heap.size = wc.heap.size + 1 := by simp
    have hoff := hcl1.offNew L (g := wc.heap.size + 1) (by omega)
    have hbA2 : Below (wc.alloc (.cells #[.int .i64 0] 3)).heap.size (wc.alloc (.cells #[.int .i64 0] 3)) ((wc.alloc (.cells #[.int .i64 0] 3)).alloc (.cells #[.int .i64 0] 3)) := (Below.refl _ _).alloc (Nat.le_refl _) _
    have hcl2 := hcl1.mem L hbA2
    have hB2 : ArrAt .i64 3 ((wc.alloc (.cells #[.int .i64 0] 3)).alloc (.cells #[.int .i64 0] 3)) (wc.heap.size + 1) [((0 : Nat) : Int)] := by
      have := arr_new .i64 3 (wc.alloc (.cells #[.int .i64 0] 3)) [0]
      rw [hs1] at this
      exact this
    have hbw := HSU.out.bw
    have HMN : Hid (Mn Snd Rcv p q rb wc.heap.size sb asl m1.text.length cs m1.text w.heap.size w ((wc.alloc (.cells #[.int .i64 0] 3)).alloc (.cells #[.int .i64 0] 3)) F1 G0 m1 r0 (wc.heap.size + 1) (.slice none 0 0) (.slice none 0 0) [] [] m1.beg) := by
      refine ⟨hcl2, by rw [HM.out.2]; exact hB2, World.ownsRow_nil _ _ _ _, World.ownsRow_nil _ _ _ _, hoff, fun g e => (by cases e), fun g e => (by cases e), by omega⟩
    have HNS : Hid (m1.text.length ≤ 50) := HM.out.1
    clear hbA1 hA1 hcl1 hs1 hoff hbA2 hcl2 hB2 hbw HSU HM
    go_wp2_with fail
    generalize ((wc.alloc (.cells #[.int .i64 0] 3)).alloc (.cells #[.int .i64 0] 3)) = wM at *
    obtain ⟨gb, egb⟩ : ∃ gb, gb = wc.heap.size + 1 := ⟨_, rfl⟩
    rw [← egb] at HMN ⊢
    clear egb
    generalize wc.heap.size = tb at *
    obtain ⟨ns, ens⟩ : ∃ ns, ns = m1.text.length := ⟨_, rfl⟩
    obtain ⟨texts, etx⟩ : ∃ texts, texts = m1.text := ⟨_, rfl⟩
    rw [← ens, ← etx] at HMN
    rw [← ens] at HNS
    have HTL : Hid (texts.length = ns) := by rw [ens, etx]; rfl
    clear ens etx
    go_loopw [13, 14, 19] (fun vo vu vi wr => ∃ (k : Nat) (F G : List Nat) (m : OutM) (r : InM) (outs : List PieceM) (us : List Nat), k ≤ nf ∧ vi = .int .i64 k ∧ Hid (Mn Snd Rcv p q rb tb sb asl ns cs texts w.heap.size w wr F G m r gb vo vu outs us m.beg) ∧ Hid (Knw m outs us k)) (fun _ _ vi _ => nf - (intOf vi).toNat)
    case atStart => exact ⟨0, F1, G0, m1, r0, [], [], by omega, rfl, HMN, Knw.new _ _⟩
    case round =>
      clear HMN
      obtain ⟨k, F, G, m, r, outs, us, hk, rfl, HMN, HKN⟩ := hrel
      by_cases hlt : k < nf
      · have x1 : decide ((k : Int) < (nf : Int)) = true := decide_eq_true (by omega)
        obtain ⟨bf, of, rfl, hC⟩ := HF.out.at (i := k) (by rw [HNF.out]; exact hlt)
        obtain ⟨d0, d1, d2⟩ := hC k (by rw [HNF.out]; exact hlt)
        have hbf := World.block_lt_of_cell? w _ d0
        obtain ⟨T, eT⟩ : ∃ T, T = fts.getD k .zero := ⟨_, rfl⟩
        rw [← eT] at d0 d1 d2
        clear eT hC
        have z63 := and63R T.size
        obtain ⟨sz, esz⟩ : ∃ sz : Int, sz = 1 + T.size % 64 := ⟨_, rfl⟩
        have hnx := L.next sz HMN.out.cl.snd (HMN.out.cl.few HTL.out HNS.out).2.1
        have hpn := HMN.out.cl.pair.next (size := sz) (by omega) (by omega)
        rw [esz] at hnx hpn
        clear esz sz
        generalize m.next (1 + T.size % 64) = y at *
        unfold PieceM.val at hnx
        have HPN := hid hpn
        clear hpn
        have f0 := cellB HMN.out.cl.bel d0
        go_upto_if 95 with (go_at_call 16; refine hnx.mono ?_; rintro e w4 ⟨rfl, hk4, F4, hs4, hg4⟩)
        clear f0 hnx
        go_cut [13, 14, 20, 21] from 76 to 161 (fun vo vu _ _ wx => ∃ (F G : List Nat) (m : OutM) (r : InM) (outs : List PieceM) (us : List Nat), Hid (Mn Snd Rcv p q rb tb sb asl ns cs texts w.heap.size w wx F G m r gb vo vu outs us m.beg) ∧ Hid (Knw m outs us (k + 1)))
        case first =>
          have hb4 : Below w4.heap.size w4 (w4.alloc (.cells #[.int .i64 y.p.num, .int .i64 y.p.frm, .bool y.p.last, .string y.p.data] 64)) := (Below.refl _ w4).alloc (Nat.le_refl _) _
          have hpb : PBx (w4.alloc (.cells #[.int .i64 y.p.num, .int .i64 y.p.frm, .bool y.p.last, .string y.p.data] 64)) w4.heap.size y.p := heap_alloc_new w4 _
          rcases HPN.out with ⟨u, hs⟩ | ⟨e6, -, -⟩
          · have hM4 := HMN.out.sends L hk4 hs4 hg4 hs.pair hs.text
            have hM5 := hM4.mem L hb4
            have hK5 := HKN.out.sends hs
            have er : y.err = 0 := hs.err
            rw [er]
            have HS := hid hs
            have HOB : Hid (∀ g, Value.ownBlock u13 = some g → g ≠ w4.heap.size) := fun g e => Nat.ne_of_lt (rowLt hM4.po e).2
            have HUB : Hid (∀ g, Value.ownBlock u14 = some g → g ≠ w4.heap.size) := fun g e => Nat.ne_of_lt (rowLt hM4.io e).2
            have HBP : Hid (w4.heap.size ∉ tb :: G) := fun e => by
              rcases List.mem_cons.mp e with e | e
              · have := hM4.cl.lt; omega
              · have := L.rlt hM4.cl.rcv _ e; omega
            clear hs hk4 hs4 hg4 hM4 HPN er
            have hbp : w4.heap.size < (w4.alloc (.cells #[.int .i64 y.p.num, .int .i64 y.p.frm, .bool y.p.last, .string y.p.data] 64)).heap.size := ltOf hpb
            generalize w4.alloc (.cells #[.int .i64 y.p.num, .int .i64 y.p.frm, .bool y.p.last, .string y.p.data] 64) = w5 at *
            generalize w4.heap.size = bp at *
            obtain ⟨q0, q1, q2, q3⟩ := hpb.cells
            obtain ⟨row, erw⟩ : ∃ row : Obj, row = .cells #[.int .i64 y.p.num, .int .i64 y.p.frm, .bool y.p.last, .string y.p.data] 64 := ⟨_, rfl⟩
            have hbr : Below w5.heap.size w5 (w5.alloc row) := (Below.refl _ w5).alloc (Nat.le_refl _) row
            have HM6 := hid (hM5.mem L hbr)
            have HPB6 : Hid (PBx (w5.alloc row) bp y.p) := hid (hpb.kept (Kept.of_below (S := []) hbr) (by simp))
            have HPX : Hid (PBx (w5.alloc row) w5.heap.size y.p) := by rw [erw]; exact heap_alloc_new w5 _
            rw [erw] at HM6 HPX HPB6
            obtain ⟨i0, hi, hz0, hz1, hz2⟩ := info_parts Try.infoPc
            have hkn := HKN.out.2.1
            have hkl := HKN.out.1
            have HLN : Hid ((outs.length + 1) * 40 ≤ 140737488355328) := by show _ ≤ _; omega
            have HLM : Hid (outs.length + 1 ≤ maxLen) := by show _ ≤ _; unfold maxLen; omega
            have HLN2 : Hid ((us.length + 1) * 8 ≤ 140737488355328) := by show _ ≤ _; omega
            have HLM2 : Hid (us.length + 1 ≤ maxLen) := by show _ ≤ _; unfold maxLen; omega
            have HI := hid hi
            have HZ0 := hid hz0
            have HZ1 := hid hz1
            have HZ2 := hid hz2
            have HK5 := hid hK5
            clear hi hz0 hz1 hz2 hkn hkl hbr erw hM5 hK5 hpb HKN hb4
            go_upto_region 22 with (at_builtin; refine wpList_pushR w.heap.size w5.heap.size Try.underlying58 HI.out HZ0.out HZ1.out HZ2.out rfl (by decide) HM6.out.po rfl _ _ rfl rfl rfl rfl (fun j z hj => HPX.out.rows j z hj) (by intro z hz; simp [PieceM.cells] at hz; rcases hz with rfl | rfl | rfl | rfl <;> rfl) HLM.out HLN.out HM6.out.cl.bw ?_; intro v7 w7 ho7 hg7 hl7)
            have hM7 := HM6.out.pushO L hg7 ho7 hl7
            have hpb7 : PBx w7 bp y.p := HPB6.out.kept (Kept.grownR hg7) (fun e => HOB.out bp (by simpa using e) rfl)
            obtain ⟨g0, g1, g2, g3⟩ := hpb7.cells
            have hbeg := HS.out.beg
            have hwin := HS.out.win
            have hup := HS.out.up
            have hw32 := hM7.cl.pair.w32
            have hpl := hM7.cl.pair.lo
            have hfw := hM7.cl.few HTL.out HNS.out
            have hfst : r.fst ≤ u + 32 := by
              have := hM7.cl.pair.fw
              have := HS.out.lo
              omega
            have hwh := whole_any y.p gb m.beg u w7 hM7.beg HS.out.lo (by omega) HS.out.num (by have := hfw.2.2.1; omega)
            unfold PieceM.val at hwh
            obtain ⟨j0, hj0, hy0, hy1, hy2⟩ := info_parts Try.info3
            have HJ := hid hj0
            have HY0 := hid hy0
            have HY1 := hid hy1
            have HY2 := hid hy2
            have HM7 := hid hM7
            have HP7 := hid hpb7
            have HFS := hid hfst
            clear hj0 hy0 hy1 hy2 hM7 hpb7 hbeg hwin hup hw32 hpl hfw hfst ho7 hg7 hl7 HM6 HPX HPB6 q0 q1 q2 q3
            go_upto_region 23 with (first
              | (go_at_call 29; refine hwh.mono ?_; rintro e w8 ⟨rfl, hb8⟩; have HM9 := hid ((HM7.out.mem L hb8).mem L ((Below.refl _ w8).alloc (Nat.le_refl _) (.cells #[.int .i64 (u : Int)] 3))); have HP9 := hid ((HP7.out.kept (Kept.of_below (S := []) hb8) (by simp)).kept (Kept.of_below (S := []) ((Below.refl _ w8).alloc (Nat.le_refl _) (.cells #[.int .i64 (u : Int)] 3))) (by simp)))
              | (at_builtin; refine wpList_pushR w.heap.size w8.heap.size Try.underlying31 HJ.out HY0.out HY1.out HY2.out rfl (by decide) HM9.out.io rfl _ _ rfl rfl rfl (news := [.int .i64 (u : Int)]) rfl (fun j z hj => by rw [cell_of_row _ _ _ _ _ _ (heap_alloc_new w8 _)]; simpa using hj) (by intro z hz; simp at hz; subst hz; rfl) HLM2.out HLN2.out HM9.out.cl.bw ?_; intro v10 w10 ho10 hg10 hl10))
            have hM10 := HM9.out.pushU L hg10 ho10 hl10
            have hpb10 : PBx w10 bp y.p := HP9.out.kept (Kept.grownR hg10) (fun e => HUB.out bp (by simpa using e) rfl)
            obtain ⟨g0, g1, g2, g3⟩ := hpb10.cells
            have f2 := cellB hM10.cl.bel d2
            have hcm := hM10.cl.come L HTL.out HNS.out HS.out.known HFS.out
            unfold PieceM.val at hcm
            have HM10 := hid hM10
            clear hpb10 ho10 hg10 hl10 HM9 HP9 HM7 HP7 hwh hM10 hb8
            cases hlo : T.lost with
            | true =>
              rw [hlo] at f2
              go_wp2_with fail
              go_meet
              case rel => exact ⟨F4, G, y.m, r, outs ++ [y.p], us ++ [u], by rw [HS.out.beg]; exact HM10, HK5⟩
            | false =>
              rw [hlo] at f2
              go_wp2_with (go_at_call 28; refine hcm.mono ?_; rintro e w11 ⟨rfl, hk11, G11, hg11, hc11⟩)
              go_meet
              case rel => exact ⟨F4, G11, y.m, _, outs ++ [y.p], us ++ [u], by rw [HS.out.beg]; exact HM10.out.takes hk11 hg11 hc11, HK5⟩
          · have er : y.err = 6 := by rw [e6]
            have hym : y.m = m := by rw [e6]
            rw [hym] at hs4
            have hM4 := HMN.out.sends L hk4 hs4 hg4 HMN.out.cl.pair rfl
            have hM5 := hM4.mem L hb4
            rw [er]
            clear HPN hk4 hs4 hg4 hM4 hpb hb4 er e6 hym
            generalize w4.alloc (.cells #[.int .i64 y.p.num, .int .i64 y.p.frm, .bool y.p.last, .string y.p.data] 64) = w5 at *
            go_wp2_with fail
            go_meet
            case rel => exact ⟨F4, G, m, r, outs, us, hM5, hid (HKN.out.mono (by omega))⟩
        case rest =>
          clear HMN HKN hk4 hs4 hg4 HPN
          obtain ⟨F, G, m, r, outs, us, HMN, HKN⟩ := hcut
          obtain ⟨ao, co, ev, -, -, hao⟩ := row_shape HMN.out.po
          subst ev
          obtain ⟨ai, ci, ev, -, -, hai⟩ := row_shape HMN.out.io
          subst ev
          have f1 := cellB HMN.out.cl.bel d1
          go_upto_region 26 with fail
          clear f1
          go_cut [148] from 76 to 161 (fun t wx => t = .bool false ∧ ∃ (G : List Nat) (r : InM), Hid (Mn Snd Rcv p q rb tb sb asl ns cs texts w.heap.size w wx F G m r gb (.slice ao outs.length co) (.slice ai us.length ci) outs us m.beg))
          case first =>
            have ct : wc.cell? ⟨tb, 0, none⟩ = some (.int .i64 (r.fst : Int)) := HMN.out.cl.tl.cell (by simp)
            have hfs : r.fst ≤ 50 := by have := (HMN.out.cl.few HTL.out HNS.out).2.2.2; have := HNS.out; omega
            have hns := HNS.out
            have hbd : ∀ n, Below wc.heap.size wc (wc.drewN n) := fun n => ⟨rfl, rfl, rfl, Nat.le_refl _, fun _ _ => rfl⟩
            have hknl := HKN.out.1
            have hknm := HKN.out.2.1
            have HHL := hid hknl
            have HHM := hid hknm
            have HHN := hid hns
            have HBD := hid hbd
            clear hbd hknl hknm hns d0 d1 d2
            generalize T.pick = pick at *
            by_cases hp0 : 0 ≤ pick
            · obtain ⟨pk, rfl⟩ : ∃ pk : Nat, pick = (pk : Int) := ⟨pick.toNat, by omega⟩
              have x0 : decide ((0 : Int) ≤ (pk : Int)) = true := decide_eq_true hp0
              by_cases hp1 : pk < outs.length
              · have x1 : decide ((pk : Int) < (outs.length : Int)) = true := decide_eq_true (by omega)
                obtain ⟨go, rfl, q0, q1, q2, q3⟩ := row_pcs HMN.out.po hp1
                obtain ⟨gi, rfl, qi⟩ := row_nums HMN.out.io (i := pk) (by have := HHL.out; omega)
                have hkn := HKN.out.2.2 pk (by have := HHL.out; omega)
                have hui : us.getD pk 0 < m.n := by obtain ⟨_, _, _, _, _, h5, _⟩ := hkn; exact h5
                have hmn := (HMN.out.cl.few HTL.out HNS.out).1
                have hpl : pk < us.length := by have := HHL.out; omega
                have hpk : pk ≤ 3518437208883 := by have := HHM.out; omega
                generalize us.getD pk 0 = uk at *
                generalize outs.getD pk PieceM.zero = xk at *
                by_cases hp2 : r.fst < uk + 32
                · have x2 : decide ((r.fst : Int) - 32 < (uk : Int)) = true := decide_eq_true (by omega)
                  have HCM : Hid (∀ wy, Below wc.heap.size wc wy → Calls Try.prog 28 #[.agg #[.int .i64 xk.num, .int .i64 xk.frm, .bool xk.last, .string xk.data], .pointer (some ⟨rb, 0, none⟩), .pointer (some ⟨tb, 0, none⟩), .pointer (some ⟨sb, 0, none⟩)] wy fun e w' => e = .returned (.bool true) ∧ Kept (tb :: G) wc w' ∧ ∃ G', Grown wc.heap.size G G' ∧ Cl Snd Rcv p q rb tb sb asl ns cs texts w.heap.size w w' F G' m (r.take xk).m) := fun wy hby => by
                    refine ((HMN.out.cl.mem L hby).come L HTL.out HNS.out hkn (by omega)).mono ?_
                    rintro e w' ⟨rfl, h1, G', h2, h3⟩
                    exact ⟨rfl, (Kept.of_below hby).trans h1, G', fun z hz => (h2 z hz).imp id (fun h => Nat.le_trans hby.size h), h3⟩
                  have hmix : Try.prog.follows .mixedOrders = true := by kernel_rfl
                  refine region_tail 26 23 [(123, .int .i64 (pk : Int)), (124, .bool true), (125, .bool true), (126, .int .i64 (pk : Int)), (127, .slice (some ⟨go, 0, none⟩) outs.length co), (128, .int .i64 (outs.length : Int)), (129, .bool true), (130, .bool true), (131, .bool true), (132, .slice (some ⟨gi, 0, none⟩) us.length ci), (133, .int .i64 (pk : Int)), (134, .pointer (some ⟨gi, 0 + pk, none⟩)), (135, .int .i64 (uk : Int)), (136, .int .i64 (r.fst : Int)), (137, .int .i64 ((r.fst : Int) - 32)), (138, .bool true), (139, .bool true), (140, .bool true), (141, .func (.func 28) #[] #[.pointer (some ⟨rb, 0, none⟩), .pointer (some ⟨tb, 0, none⟩), .pointer (some ⟨sb, 0, none⟩)]), (142, .slice (some ⟨go, 0, none⟩) outs.length co), (143, .int .i64 (pk : Int)), (144, .pointer (some ⟨go, 0 + pk * 4, none⟩)), (145, .agg #[.int .i64 xk.num, .int .i64 xk.frm, .bool xk.last, .string xk.data])] [[22], [123], [124], [22, 125], [13, 125], [127, 125], [126, 128, 125], [125, 129], [130], [14, 131], [22, 131], [132, 133, 131], [134, 131], [15, 131], [136, 131], [135, 137, 131], [131, 138], [139], [17, 140], [13, 140], [22, 140], [142, 143, 140], [144, 140]] [1, 2, 3, 6, 5, 6, 7, 8, 9, 11, 11, 12, 15, 14, 15, 16, 17, 18, 23, 21, 21, 22, 23] (R := fun w' => Kept (tb :: G) wc w' ∧ ∃ G', Grown wc.heap.size G G' ∧ Cl Snd Rcv p q rb tb sb asl ns cs texts w.heap.size w w' F G' m (r.take xk).m) hmix rfl rfl rfl (show ([123, 124, 125, 126, 127, 128, 129, 130, 131, 132, 133, 134, 135, 136, 137, 138, 139, 140, 141, 142, 143, 144, 145] : List Nat).Nodup by decide) (by kernel_rfl) (by kernel_rfl) (by kernel_rfl) (by kernel_rfl) (by kernel_rfl) (by kernel_rfl)
                    ?steps rfl rfl rfl (jg := 17) rfl rfl rfl rfl rfl rfl rfl rfl rfl rfl rfl (enters_of Try.func28 (by kernel_rfl) rfl) rfl rfl rfl (by decide) (by decide) (by kernel_rfl) (by kernel_rfl) HCM.out ?cont
                  case steps =>
                      intro i' hi' ac wc hk hr Q K hK
                      have hor : i' = 0 ∨ i' = 1 ∨ i' = 2 ∨ i' = 3 ∨ i' = 4 ∨ i' = 5 ∨ i' = 6 ∨ i' = 7 ∨ i' = 8 ∨ i' = 9 ∨ i' = 10 ∨ i' = 11 ∨ i' = 12 ∨ i' = 13 ∨ i' = 14 ∨ i' = 15 ∨ i' = 16 ∨ i' = 17 ∨ i' = 18 ∨ i' = 19 ∨ i' = 20 ∨ i' = 21 ∨ i' = 22 := by omega
                      rcases hor with rfl | rfl | rfl | rfl | rfl | rfl | rfl | rfl | rfl | rfl | rfl | rfl | rfl | rfl | rfl | rfl | rfl | rfl | rfl | rfl | rfl | rfl | rfl
                      · have e22 : ac.eval (.tmp 22) = .int .i64 (pk : Int) := hr 22 (by decide)
                        exact op_value rfl rfl (run_moveQ wc rfl e22) (hK wc (keptU wc))
                      · have e123 : ac.eval (.tmp 123) = .int .i64 (pk : Int) := hr 123 (by decide)
                        exact op_value rfl rfl (run_geqR wc rfl e123 rfl x0) (hK wc (keptU wc))
                      · have e124 : ac.eval (.tmp 124) = .bool true := hr 124 (by decide)
                        exact op_value rfl rfl (run_moveQ wc rfl e124) (hK wc (keptU wc))
                      · have e22 : ac.eval (.tmp 22) = .int .i64 (pk : Int) := hr 22 (by decide)
                        have e125 : ac.eval (.tmp 125) = .bool true := hr 125 (by decide)
                        exact op_valueG rfl rfl rfl rfl e125 (run_moveQ wc rfl e22) (hK wc (keptU wc))
                      · have e13 : ac.eval (.tmp 13) = .slice (some ⟨go, 0, none⟩) outs.length co := hr 13 (by decide)
                        have e125 : ac.eval (.tmp 125) = .bool true := hr 125 (by decide)
                        exact op_valueG rfl rfl rfl rfl e125 (run_moveQ wc rfl e13) (hK wc (keptU wc))
                      · have e127 : ac.eval (.tmp 127) = .slice (some ⟨go, 0, none⟩) outs.length co := hr 127 (by decide)
                        have e125 : ac.eval (.tmp 125) = .bool true := hr 125 (by decide)
                        exact op_valueG rfl rfl rfl rfl e125 (run_lenR wc rfl e127) (hK wc (keptU wc))
                      · have e126 : ac.eval (.tmp 126) = .int .i64 (pk : Int) := hr 126 (by decide)
                        have e128 : ac.eval (.tmp 128) = .int .i64 (outs.length : Int) := hr 128 (by decide)
                        have e125 : ac.eval (.tmp 125) = .bool true := hr 125 (by decide)
                        exact op_valueG rfl rfl rfl rfl e125 (run_lssR wc rfl e126 e128 x1) (hK wc (keptU wc))
                      · have e125 : ac.eval (.tmp 125) = .bool true := hr 125 (by decide)
                        have e129 : ac.eval (.tmp 129) = .bool true := hr 129 (by decide)
                        exact op_value rfl rfl (run_pickR wc rfl e125 e129) (hK wc (keptU wc))
                      · have e130 : ac.eval (.tmp 130) = .bool true := hr 130 (by decide)
                        exact op_value rfl rfl (run_moveQ wc rfl e130) (hK wc (keptU wc))
                      · have e14 : ac.eval (.tmp 14) = .slice (some ⟨gi, 0, none⟩) us.length ci := hr 14 (by decide)
                        have e131 : ac.eval (.tmp 131) = .bool true := hr 131 (by decide)
                        exact op_valueG rfl rfl rfl rfl e131 (run_moveQ wc rfl e14) (hK wc (keptU wc))
                      · have e22 : ac.eval (.tmp 22) = .int .i64 (pk : Int) := hr 22 (by decide)
                        have e131 : ac.eval (.tmp 131) = .bool true := hr 131 (by decide)
                        exact op_valueG rfl rfl rfl rfl e131 (run_moveQ wc rfl e22) (hK wc (keptU wc))
                      · have e132 : ac.eval (.tmp 132) = .slice (some ⟨gi, 0, none⟩) us.length ci := hr 132 (by decide)
                        have e133 : ac.eval (.tmp 133) = .int .i64 (pk : Int) := hr 133 (by decide)
                        have e131 : ac.eval (.tmp 131) = .bool true := hr 131 (by decide)
                        exact op_valueG rfl rfl rfl rfl e131 (run_ixIR wc rfl e132 e133 hpl) (hK wc (keptU wc))
                      · have e134 : ac.eval (.tmp 134) = .pointer (some ⟨gi, 0 + pk, none⟩) := hr 134 (by decide)
                        have e131 : ac.eval (.tmp 131) = .bool true := hr 131 (by decide)
                        exact op_valueG rfl rfl rfl rfl e131 (run_ldIR wc rfl e134 (by rw [Nat.zero_add]; exact keptCellQ hk qi (by simp))) (hK wc (keptU wc))
                      · have e15 : ac.eval (.tmp 15) = .pointer (some ⟨tb, 0, none⟩) := hr 15 (by decide)
                        have e131 : ac.eval (.tmp 131) = .bool true := hr 131 (by decide)
                        exact op_valueG rfl rfl rfl rfl e131 (run_ldIR wc rfl e15 (keptCellQ hk ct (by simp))) (hK wc (keptU wc))
                      · have e136 : ac.eval (.tmp 136) = .int .i64 (r.fst : Int) := hr 136 (by decide)
                        have e131 : ac.eval (.tmp 131) = .bool true := hr 131 (by decide)
                        exact op_valueG rfl rfl rfl rfl e131 (run_subR wc rfl e136 rfl (by rw [IntKind.wrap_i64]; omega)) (hK wc (keptU wc))
                      · have e135 : ac.eval (.tmp 135) = .int .i64 (uk : Int) := hr 135 (by decide)
                        have e137 : ac.eval (.tmp 137) = .int .i64 ((r.fst : Int) - 32) := hr 137 (by decide)
                        have e131 : ac.eval (.tmp 131) = .bool true := hr 131 (by decide)
                        exact op_valueG rfl rfl rfl rfl e131 (run_gtrR wc rfl e135 e137 x2) (hK wc (keptU wc))
                      · have e131 : ac.eval (.tmp 131) = .bool true := hr 131 (by decide)
                        have e138 : ac.eval (.tmp 138) = .bool true := hr 138 (by decide)
                        exact op_value rfl rfl (run_pickR wc rfl e131 e138) (hK wc (keptU wc))
                      · have e139 : ac.eval (.tmp 139) = .bool true := hr 139 (by decide)
                        exact op_value rfl rfl (run_moveQ wc rfl e139) (hK wc (keptU wc))
                      · have e17 : ac.eval (.tmp 17) = .func (.func 28) #[] #[.pointer (some ⟨rb, 0, none⟩), .pointer (some ⟨tb, 0, none⟩), .pointer (some ⟨sb, 0, none⟩)] := hr 17 (by decide)
                        have e140 : ac.eval (.tmp 140) = .bool true := hr 140 (by decide)
                        exact op_valueG rfl rfl rfl rfl e140 (run_moveQ wc rfl e17) (hK wc (keptU wc))
                      · have e13 : ac.eval (.tmp 13) = .slice (some ⟨go, 0, none⟩) outs.length co := hr 13 (by decide)
                        have e140 : ac.eval (.tmp 140) = .bool true := hr 140 (by decide)
                        exact op_valueG rfl rfl rfl rfl e140 (run_moveQ wc rfl e13) (hK wc (keptU wc))
                      · have e22 : ac.eval (.tmp 22) = .int .i64 (pk : Int) := hr 22 (by decide)
                        have e140 : ac.eval (.tmp 140) = .bool true := hr 140 (by decide)
                        exact op_valueG rfl rfl rfl rfl e140 (run_moveQ wc rfl e22) (hK wc (keptU wc))
                      · have e142 : ac.eval (.tmp 142) = .slice (some ⟨go, 0, none⟩) outs.length co := hr 142 (by decide)
                        have e143 : ac.eval (.tmp 143) = .int .i64 (pk : Int) := hr 143 (by decide)
                        have e140 : ac.eval (.tmp 140) = .bool true := hr 140 (by decide)
                        exact op_valueG rfl rfl rfl rfl e140 (run_ixPR wc rfl e142 e143 hp1) (hK wc (keptU wc))
                      · have e144 : ac.eval (.tmp 144) = .pointer (some ⟨go, 0 + pk * 4, none⟩) := hr 144 (by decide)
                        have e140 : ac.eval (.tmp 140) = .bool true := hr 140 (by decide)
                        exact op_valueG rfl rfl rfl rfl e140 (run_ldPR wc rfl e144 (by rw [Nat.zero_add]; exact keptCellQ hk q0 (by simp)) (by rw [Nat.zero_add]; exact keptCellQ hk q1 (by simp)) (by rw [Nat.zero_add]; exact keptCellQ hk q2 (by simp)) (by rw [Nat.zero_add]; exact keptCellQ hk q3 (by simp))) (hK wc (keptU wc))
                  case cont =>
                      rintro w11 ⟨hk11, G11, hg11, hc11⟩
                      dsimp only [setAll, List.set, List.append_nil, List.cons_append, List.nil_append]
                      go_wp2_with fail
                      go_meet
                      case rel => exact ⟨rfl, G11, _, HMN.out.takes hk11 hg11 hc11⟩
                · have x2 : decide ((r.fst : Int) - 32 < (uk : Int)) = false := decide_eq_false (by omega)
                  go_quiet (fail)
                  go_wp2_with fail
                  go_meet
                  case rel => exact ⟨rfl, G, r, HMN.out.mem L (HBD.out _)⟩
              · have x1 : decide ((pk : Int) < (outs.length : Int)) = false := decide_eq_false (by omega)
                go_quiet (fail)
                go_wp2_with fail
                go_meet
                case rel => exact ⟨rfl, G, r, HMN.out.mem L (HBD.out _)⟩
            · have x0 : decide ((0 : Int) ≤ pick) = false := decide_eq_false hp0
              go_quiet (fail)
              go_wp2_with fail
              go_meet
              case rel => exact ⟨rfl, G, r, HMN.out.mem L (HBD.out _)⟩
          case rest =>
            clear HMN
            obtain ⟨rfl, G, r, HMN⟩ := hcut
            have f1 := cellB HMN.out.cl.bel d1
            have c1 := HMN.out.cl.c1
            have hrp := HMN.out.cl.reports L HTL.out HNS.out
            generalize T.pick = pick at *
            cases hx : (Int.tmod pick 3 == 0) with
            | false =>
              go_wp2_with fail
              exact ⟨⟨k + 1, F, G, m, r, outs, us, by omega, by go_num, HMN, HKN⟩, by simp [intOf]; omega⟩
            | true =>
              go_wp2_with (first
                | (go_at_call 27; refine hrp.mono ?_; rintro e w8 ⟨a1, n1, c8, rfl, G', hg1, hk1, hc8, htk⟩; have hM8 := HMN.out.takes (hk1.wider fun _ hx => List.mem_cons_of_mem _ hx) hg1 hc8)
                | (go_at_call 22; refine htk.mono ?_; rintro e w9 ⟨rfl, hk2, F', hg2, h2⟩; have c9 : w9.cell? ⟨tb, 0, none⟩ = some (.int .i64 (r.fst : Int)) := h2.tl.cell (by simp); have hM9 := hM8.sends L hk2 h2.snd hg2 h2.pair rfl; have b9 : w9.cell? ⟨gb, 0, none⟩ = some (.int .i64 (m.beg : Int)) := hM9.beg.cell (by simp); have b8 := hM9.beg.free 0))
              exact ⟨⟨k + 1, F', G', m.taken (r.nxt - m.beg) r.report.miss, r, outs, us, by omega, by go_num, hid (by rw [HMN.out.cl.pair.taken_beg]; exact hM9.setB L r.fst), hid HKN.out.taken⟩, by simp [intOf]; omega⟩
      · have x1 : decide ((k : Int) < (nf : Int)) = false := decide_eq_false (by omega)
        have hcl := clean_any L HMN.out.cl HTL.out HNS.out
        have c3 := HMN.out.cl.c3
        have c1 := HMN.out.cl.c1
        go_wp2_with (go_at_call 30; refine hcl.mono ?_; rintro e w6 ⟨rfl, hb6⟩)
        go_ret
        exact ⟨rfl, hb6⟩
end Go.Proofs.Ytdgdklmgnnhadaf
