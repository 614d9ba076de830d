import Derived.Test.YtiiobeelmnjffabDoorTabs
import Derived.Test.YtiiobeelmnjffabDoorDecode
import Derived.Test.YtiiobeelmnjffabDoorZeros
import Derived.Deep.MidRow
namespace Go.Proofs.YtiiobeelmnjffabDoor
open Go.ChangeShapes Go.WideShapes Go.ChangeAt Go.RowKit

/-- The bodies of the loops that lie open in a code, in their order. -/
def loopsIn : Code → List Code
  | .loop b => [b]
  | .seq p q => loopsIn p ++ loopsIn q
  | .cond _ p q => loopsIn p ++ loopsIn q
  | .block _ b => loopsIn b
  | .scope b => loopsIn b
  | _ => []
/-- The regions of a number that lie in a code. -/
def regionsIn (k : Nat) : Code → List Code
  | .region j ops d => if j = k then [.region j ops d] else []
  | .seq p q => regionsIn k p ++ regionsIn k q
  | .cond _ p q => regionsIn k p ++ regionsIn k q
  | .block _ b => regionsIn k b
  | .scope b => regionsIn k b
  | .loop b => regionsIn k b
  | _ => []
def inside (c : Code) : Code := (loopsIn c).headD .skip



theorem gain_bd (l : List Int) (h : ∀ k, -100000 ≤ l.getD k 0 ∧ l.getD k 0 ≤ 100000) (i : Nat) (s x : Int) : -300000 ≤ gain l i s x ∧ gain l i s x ≤ 300000 := by
  have h0 := h (3 * i)
  have h1 := h (3 * i + 1)
  have h2 := h (3 * i + 2)
  unfold gain sgn
  split <;> split <;> split <;> omega
theorem sc_bd (l : List Int) (h : ∀ k, -100000 ≤ l.getD k 0 ∧ l.getD k 0 ≤ 100000) : ∀ (c : List Int) (i : Nat) (s : Int), -(300000 * (c.length : Int)) ≤ sc l i s c ∧ sc l i s c ≤ 300000 * (c.length : Int)
  | [], _, _ => by simp [sc]
  | x :: c, i, s => by
    have a := sc_bd l h c (i + 1) (nxt s x)
    have b := gain_bd l h i s x
    simp only [sc, List.length_cons]
    omega
theorem table_q {w : World} {B g n i : Nat} {l : List Int} {vv : Nat → Value} {qq : Nat → Int} {tt : Nat → Bool} {bb : Nat → List Int} (h : Table w B g n l (fun s => At n i s) vv qq tt bb) (hb : ∀ k, -100000 ≤ l.getD k 0 ∧ l.getD k 0 ≤ 100000) {s : Nat} (hs : s < 64) (ht : tt s = true) :
    -(300000 * (i : Int)) ≤ qq s ∧ qq s ≤ 300000 * (i : Int) ∧ (bb s).length = min n i := by
  obtain ⟨p, hp, hb', hq⟩ := ((h.ent s hs).2 ht).here
  have hl := hp.1.len
  have := sc_bd l hb p 0 0
  rw [hl, hq] at this
  exact ⟨this.1, this.2, by rw [← hb', List.length_take, hl]⟩
theorem table_len {w : World} {B g n i : Nat} {M : Int} {l : List Int} {vv : Nat → Value} {qq : Nat → Int} {tt : Nat → Bool} {bb : Nat → List Int} (h : Table w B g n l (fun t => Sofar n i M t) vv qq tt bb) {t : Nat} (ht64 : t < 64) (ht : tt t = true) : (bb t).length = min n (i + 1) := by
  obtain ⟨p, hp, hb', _⟩ := ((h.ent t ht64).2 ht).here
  rw [← hb']
  exact take_len hp
theorem newB_len (n i x : Nat) (b : List Int) (h : b.length = min n i) : (newB n i x b).length = min n (i + 1) := by
  unfold newB
  split
  · simp; omega
  · omega

/-- The score of three. -/
theorem three_any (l : List Int) (i : Nat) (s x : Int) (A Bx : Option Addr) (ca cb : Nat) (w : World) (hA : Rd .u8 w A [out0 s x, out1 s x, out2 s x]) (hB : Rd .i64 w Bx [l.getD (3 * i) 0, l.getD (3 * i + 1) 0, l.getD (3 * i + 2) 0]) (hs : ∀ k, -100000 ≤ l.getD k 0 ∧ l.getD k 0 ≤ 100000) :
    Calls Tryd.prog 13 #[.slice A 3 ca, .slice Bx 3 cb] w fun e w' => e = .returned (.int .i64 (gain l i s x)) ∧ w = w' := by
  have h := rscore_any [out0 s x, out1 s x, out2 s x] [l.getD (3 * i) 0, l.getD (3 * i + 1) 0, l.getD (3 * i + 2) 0] A Bx ca cb 3 w hA hB rfl (by simp) (by simp) (fun k => by
    rcases k with _ | _ | _ | k
    · exact hs (3 * i)
    · exact hs (3 * i + 1)
    · exact hs (3 * i + 2)
    · simp)
  have e : scoreTo [out0 s x, out1 s x, out2 s x] [l.getD (3 * i) 0, l.getD (3 * i + 1) 0, l.getD (3 * i + 2) 0] 3 = gain l i s x := by
    show 0 + sgn (out0 s x) (l.getD (3 * i) 0) + sgn (out1 s x) (l.getD (3 * i + 1) 0) + sgn (out2 s x) (l.getD (3 * i + 2) 0) = _
    unfold gain
    omega
  rw [← e]
  exact h
theorem ArrAt.rd {k : IntKind} {T : TypeId} {w : World} {g : Nat} {L : List Int} (h : ArrAt k T w g L) : Rd k w (some ⟨g, 0, none⟩) L := rd_block h

theorem Own.off {w : World} {B : Nat} {v : Value} {L : List Int} (h : Own w B v L) {p : Addr} (hp : p.block < B) (x : Value) : Own (w.setCell p x) B v L := by
  refine ⟨h.1, ?_⟩
  rcases h.2 with h' | ⟨g, cap, cur, h1, h2, h3, h4⟩
  · exact .inl h'
  · exact .inr ⟨g, cap, cur, h1, h2, (heap_setCell_other w p g x (by omega)).trans h3, h4⟩

set_option maxHeartbeats 400000 in
theorem rahead_quiet (xs ys : List Int) (a b : Option Addr) (ca cb n m : Nat) (w : World) (ha : Rd .u8 w a xs) (hb : Rd .u8 w b ys) (hx : xs.length ≤ maxLen) (hl : ys.length = xs.length) (hn : xs.length = n) (hm : ys.length = m) :
    Calls Tryd.prog 17 #[.slice a n ca, .slice b m cb] w fun e w' => e = .returned (.bool (ahead xs ys)) ∧ ∃ m, w' = w.drewN m := by
  obtain rfl : m = n := by omega
  obtain rfl : xs.length = m := hn
  unfold maxLen at hx
  have HL := hid hl
  clear hl hm
  go_enter Tryd.func17, Tryd.ntmps17
  go_wp2
  go_loopw [5] (fun i wr => ∃ k t : Nat, k ≤ xs.length ∧ i = .int .i64 k ∧ Hid (ahead xs ys = ahead (xs.drop k) (ys.drop k)) ∧ wr = w.drewN t) (fun i _ => xs.length - (intOf i).toNat)
  case atStart => exact ⟨0, 0, Nat.zero_le _, rfl, rfl, rfl⟩
  case round =>
    obtain ⟨k, t, hk, rfl, HA, rfl⟩ := hrel
    by_cases hlt : k < xs.length
    · obtain ⟨b1, o1, rfl, hc1⟩ := ha.at hlt
      obtain ⟨b2, o2, rfl, hc2⟩ := hb.at (i := k) (by rw [HL.out]; exact hlt)
      have g1 := hc1 k hlt
      have g2 := hc2 k (by rw [HL.out]; exact hlt)
      have hsp := hid (ahead_drop xs ys k hlt (by rw [HL.out]; exact hlt))
      clear hc1 hc2
      obtain ⟨x, ex⟩ : ∃ x, x = xs.getD k 0 := ⟨_, rfl⟩
      obtain ⟨y, ey⟩ : ∃ y, y = ys.getD k 0 := ⟨_, rfl⟩
      rw [← ex] at g1
      rw [← ey] at g2
      have EX := hid ex
      have EY := hid ey
      clear ex ey
      by_cases h1 : x = y
      · have c1 : (x != y) = false := by simpa using h1
        have hv := hid (show ahead xs ys = ahead (xs.drop (k + 1)) (ys.drop (k + 1)) by rw [HA.out, hsp.out, ← EX.out, ← EY.out, if_pos h1])
        clear h1
        go_wp2_with fail
        go_quiet (fail)
        go_wp2
        go_roundw
        case rel => exact ⟨k + 1, _, by omega, by go_num, hv.out, by first | rfl | exact World.drewN_drewN _ _ _⟩
        case measure => simp [intOf]; omega
      · have c1 : (x != y) = true := by simpa using h1
        have hv := hid (show ahead xs ys = decide (x < y) by rw [HA.out, hsp.out, ← EX.out, ← EY.out, if_neg h1])
        clear h1
        go_wp2_with fail
        go_quiet (fail)
        go_wp2_with fail
        go_quiet (fail)
        go_wp2
        go_ret
        exact ⟨ret_bool hv.out.symm, _, by first | rfl | rw [World.drewN_drewN, World.drewN_drewN]⟩
    · have hv := hid (show ahead xs ys = false by rw [HA.out, List.drop_eq_nil_of_le (by omega)]; rfl)
      go_wp2
      go_ret
      exact ⟨ret_bool hv.out.symm, _, rfl⟩

/-- The candidate is written into the next table. -/
theorem take_all {w w00 : World} {B g g' n i s x T0 : Nat} {soft : List Int} {vv vv' : Nat → Value} {qq qq' : Nat → Int} {tt tt' : Nat → Bool} {bb bb' : Nat → List Int} {v : Value} {Q : Int} (h : Table w B g n soft (fun s => At n i s) vv qq tt bb) (hs : s < 64) (ht : tt s = true) (hx : x ≤ 1) (hz : ¬ (x = 1 ∧ n ≤ i))
    (h' : Table w B g' n soft (fun t => Sofar n i ((2 * s : Nat) + (x : Nat)) t) vv' qq' tt' bb') (hne : g ≠ g') (hT : T0 = x * 32 + s / 2) (hQ : Q = newQ soft i s x (qq s)) (hk : taken (tt' T0) (qq' T0) Q (bb' T0) (newB n i x (bb s)) = true) (hv : Own w B v (newB n i x (bb s))) (hb : Below B w00 w) :
    ∃ vv2 qq2 tt2 bb2, Table (w.setCells g' (T0 * 3) [v, .int .i64 Q, .bool true]) B g n soft (fun s => At n i s) vv qq tt bb ∧
      Table (w.setCells g' (T0 * 3) [v, .int .i64 Q, .bool true]) B g' n soft (fun t => Sofar n i ((2 * s : Nat) + (x + 1 : Nat)) t) vv2 qq2 tt2 bb2 ∧ Below B w00 (w.setCells g' (T0 * 3) [v, .int .i64 Q, .bool true]) := by
  subst hT hQ
  have e : w.setCells g' ((x * 32 + s / 2) * 3) [v, .int .i64 (newQ soft i s x (qq s)), .bool true] = ((w.setCell ⟨g', 3 * (x * 32 + s / 2), none⟩ v).setCell ⟨g', 3 * (x * 32 + s / 2) + 1, none⟩ (.int .i64 (newQ soft i s x (qq s)))).setCell ⟨g', 3 * (x * 32 + s / 2) + 2, none⟩ (.bool true) := by
    rw [Nat.mul_comm _ 3]
    rfl
  rw [e]
  have hto : x * 32 + s / 2 < 64 := by omega
  have r0 := h'.row
  have r1 := r0.set0 hto v
  have r2 := r1.set1 hto (newQ soft i s x (qq s))
  exact ⟨_, _, _, _, ((h.apart r0 hne _ _).apart r1 hne _ _).apart r2 hne _ _, table_take h hs ht hx hz h' hk hv,
    ((hb.setCell (p := ⟨g', 3 * (x * 32 + s / 2), none⟩) h'.low _).setCell (p := ⟨g', 3 * (x * 32 + s / 2) + 1, none⟩) h'.low _).setCell (p := ⟨g', 3 * (x * 32 + s / 2) + 2, none⟩) h'.low _⟩
theorem Tryd.size54 : (Tryd.prog.info? 54).map (·.size) = some 3 := by kernel_rfl
theorem arr3 {a b c a' b' c' : Int} (ha : a = a') (hb : b = b') (hc : c = c') : some (Obj.cells #[.int .u8 a, .int .u8 b, .int .u8 c] 5 (0, 0)) = some (Obj.cells (([a', b', c'] : List Int).map (Value.int .u8)).toArray 5 (0, 0)) := by
  subst ha hb hc
  rfl
theorem sum5 (a b c d e : Int) : (IntKind.u8.wrap (IntKind.u8.wrap (IntKind.u8.wrap (IntKind.u8.wrap (a + b) + c) + d) + e)).tmod 2 = (a + b + c + d + e) % 2 := by
  simp only [IntKind.wrap_u8']
  rw [Int.tmod_eq_emod_of_nonneg (by omega)]
  omega
end Go.Proofs.YtiiobeelmnjffabDoor
