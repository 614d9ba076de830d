import Derived.Test.YtbmdjfolfmgmmagK21
import Derived.Test.YtbmdjfolfmgmmagK23
namespace Go.Proofs.Ytbmdjfolfmgmmag
open Go.ChangeShapes Go.WideShapes Go.ChangeAt Go.RowKit
/-- A thing that lies in blocks. -/
structure Cmp where
  P : World → List Nat → Prop
  lt : ∀ w F, P w F → ∀ x ∈ F, x < w.heap.size
  kept : ∀ w w' F S, P w F → Kept S w w' → (∀ x ∈ F, x ∉ S) → P w' F
structure Sep (w wr : World) (L : List (Cmp × List Nat)) : Prop where
  bel : Below w.heap.size w wr
  each : ∀ c ∈ L, c.1.P wr c.2
  nw : ∀ c ∈ L, ∀ x ∈ c.2, w.heap.size ≤ x
  ap : L.Pairwise (fun a b => ∀ x ∈ a.2, x ∉ b.2)
theorem Sep.below {w wr w' : World} {L : List (Cmp × List Nat)} (h : Sep w wr L) (hb : Below wr.heap.size wr w') : Sep w w' L :=
  ⟨bthen h.bel hb, fun c hc => c.1.kept _ _ _ [] (h.each c hc) (Kept.of_below hb) (by simp), h.nw, h.ap⟩
theorem Sep.step {w wr w' : World} (A : List (Cmp × List Nat)) {B : List (Cmp × List Nat)} {c c' : Cmp} {F F' : List Nat} (h : Sep w wr (A ++ (c, F) :: B)) (hk : Kept F wr w') (hP : c'.P w' F') (hg : Grown wr.heap.size F F') : Sep w w' (A ++ (c', F') :: B) := by
  have hc : (c, F) ∈ A ++ (c, F) :: B := List.mem_append_right _ List.mem_cons_self
  have hA : ∀ d ∈ A, d ∈ A ++ (c, F) :: B := fun d hd => List.mem_append_left _ hd
  have hB : ∀ d ∈ B, d ∈ A ++ (c, F) :: B := fun d hd => List.mem_append_right _ (List.mem_cons_of_mem _ hd)
  obtain ⟨p1, p2, p3⟩ := List.pairwise_append.1 h.ap
  obtain ⟨p4, p5⟩ := List.pairwise_cons.1 p2
  have hs := h.bel.size
  have gA : ∀ d ∈ A, ∀ x ∈ d.2, x ∉ F' := fun d hd x hx e => by
    rcases hg x e with q | q
    · exact p3 d hd (c, F) List.mem_cons_self x hx q
    · have := d.1.lt _ _ (h.each d (hA d hd)) x hx
      omega
  have gB : ∀ d ∈ B, ∀ x ∈ F', x ∉ d.2 := fun d hd x hx e => by
    rcases hg x hx with q | q
    · exact p4 d hd x q e
    · have := d.1.lt _ _ (h.each d (hB d hd)) x e
      omega
  refine ⟨below_keptG h.bel hk (h.nw (c, F) hc), fun d hd => ?_, fun d hd x hx => ?_, ?_⟩
  · rcases List.mem_append.1 hd with hd | hd
    · exact d.1.kept _ _ _ _ (h.each d (hA d hd)) hk (fun x hx => p3 d hd (c, F) List.mem_cons_self x hx)
    · rcases List.mem_cons.1 hd with rfl | hd
      · exact hP
      · exact d.1.kept _ _ _ _ (h.each d (hB d hd)) hk (fun x hx e => p4 d hd x e hx)
  · rcases List.mem_append.1 hd with hd | hd
    · exact h.nw d (hA d hd) x hx
    · rcases List.mem_cons.1 hd with rfl | hd
      · rcases hg x hx with q | q
        · exact h.nw (c, F) hc x q
        · omega
      · exact h.nw d (hB d hd) x hx
  · refine List.pairwise_append.2 ⟨p1, List.pairwise_cons.2 ⟨gB, p5⟩, fun d hd e he => ?_⟩
    rcases List.mem_cons.1 he with rfl | he
    · exact gA d hd
    · exact p3 d hd e (List.mem_cons_of_mem _ he)
theorem Sep.add {w wr : World} {L : List (Cmp × List Nat)} (h : Sep w wr L) {n : Nat} (hn : w.heap.size ≤ n) (hL : ∀ d ∈ L, ∀ x ∈ d.2, x < n) (c : Cmp) (F : List Nat) (hP : c.P wr F) (hF : ∀ x ∈ F, n ≤ x) : Sep w wr (L ++ [(c, F)]) := by
  refine ⟨h.bel, fun d hd => ?_, fun d hd x hx => ?_, List.pairwise_append.2 ⟨h.ap, List.pairwise_cons.2 ⟨fun d hd => absurd hd (by simp), List.Pairwise.nil⟩, fun d hd e he x hx q => ?_⟩⟩
  · rcases List.mem_append.1 hd with hd | hd
    · exact h.each d hd
    · rw [List.mem_singleton] at hd; subst hd; exact hP
  · rcases List.mem_append.1 hd with hd | hd
    · exact h.nw d hd x hx
    · rw [List.mem_singleton] at hd; subst hd
      have := hF x hx
      omega
  · rw [List.mem_singleton] at he; subst he
    have h1 := hL d hd x hx
    have h2 := hF x q
    omega
theorem Sep.lts {w wr : World} {L : List (Cmp × List Nat)} (h : Sep w wr L) : ∀ d ∈ L, ∀ x ∈ d.2, x < wr.heap.size := fun d hd x hx => d.1.lt _ _ (h.each d hd) x hx
theorem Sep.less {w wr : World} {L K : List (Cmp × List Nat)} (h : Sep w wr (L ++ K)) : Sep w wr L :=
  ⟨h.bel, fun c hc => h.each c (List.mem_append_left _ hc), fun c hc => h.nw c (List.mem_append_left _ hc), (List.pairwise_append.1 h.ap).1⟩
def sndC (g : Nat) (m : SdM) : Cmp := ⟨fun w F => ∃ v, F = sdF g v ∧ PSd w g v m, fun w F ⟨v, e, h⟩ => by subst e; exact h.lt, fun w w' F S ⟨v, e, h⟩ hk hn => by subst e; exact ⟨v, rfl, h.kept hk hn⟩⟩
def rcvC (g bm : Nat) (m : GcM) : Cmp := ⟨fun w F => F = gcF g bm ∧ PGc w g bm m, fun w F ⟨e, h⟩ => by subst e; exact h.lt, fun w w' F S ⟨e, h⟩ hk hn => by subst e; exact ⟨rfl, h.kept hk hn⟩⟩
def gvC (g : Nat) (m : SdM) : Cmp := ⟨fun w F => ∃ v L, F = gvF g v ∧ PGv w g v L m, fun w F ⟨v, L, e, h⟩ => by subst e; exact h.lt, fun w w' F S ⟨v, L, e, h⟩ hk hn => by subst e; exact ⟨v, L, rfl, h.kept hk hn⟩⟩
def gtC (g : Nat) (m : GcM) (K : Nat) : Cmp := ⟨fun w F => ∃ vc vd cs dd, F = gtF g vc vd ∧ PGt w g vc vd cs dd m ∧ cs.length ≤ K, fun w F ⟨vc, vd, cs, dd, e, h, _⟩ => by subst e; exact h.lt, fun w w' F S ⟨vc, vd, cs, dd, e, h, hK⟩ hk hn => by subst e; exact ⟨vc, vd, cs, dd, rfl, h.kept hk hn, hK⟩⟩
def pksC (v : Value) (l : List PktM) : Cmp := ⟨fun w F => F = ownB v ∧ w.ownsRow 0 43 3 v l.length (cellsPk l), fun w F ⟨e, h⟩ => by subst e; exact fun x hx => (row_new h x hx).2, fun w w' F S ⟨e, h⟩ hk hn => by subst e; exact ⟨rfl, row_kept h hk hn⟩⟩
def txsC (v : Value) (l : List ByteArray) : Cmp := ⟨fun w F => F = ownB v ∧ w.ownsRow 0 9 1 v l.length (l.map Value.string), fun w F ⟨e, h⟩ => by subst e; exact fun x hx => (row_new h x hx).2, fun w w' F S ⟨e, h⟩ hk hn => by subst e; exact ⟨rfl, row_kept h hk hn⟩⟩
theorem row_zero {w : World} {B n k : Nat} {T : TypeId} {v : Value} {xs : List Value} (h : w.ownsRow B T k v n xs) : w.ownsRow 0 T k v n xs := by
  refine ⟨h.1, ?_⟩
  rcases h.2 with q | ⟨g9, cap, cur, q1, q2, q3⟩
  · exact .inl q
  · exact .inr ⟨g9, cap, cur, q1, Nat.zero_le _, q3⟩
/-- What is told all at once. -/
theorem steps_ex {M : Nat → Option ByteArray} (hM : ∀ k, 16777216 ≤ k → M k = none) : ∀ d F, F + d = 16777216 → ∃ ks, StepsG M true F ks
  | 0, F, e => ⟨[], fun k hk => hM k (by omega)⟩
  | d + 1, F, e => by
    obtain ⟨ks, hk⟩ := steps_ex hM d (F + 1) (by omega)
    cases hF : M F with
    | some x => exact ⟨F :: ks, Nat.le_refl _, by rw [hF]; rfl, fun j a b => by omega, fun q => (by cases q), hk⟩
    | none =>
      refine ⟨ks, ?_⟩
      cases ks with
      | nil =>
        have h1 : ∀ k, F + 1 ≤ k → M k = none := hk
        exact fun k hk => by
          rcases Nat.lt_or_ge F k with q | q
          · exact h1 k q
          · have : k = F := by omega
            rw [this]; exact hF
      | cons a l =>
        obtain ⟨q1, q2, q3, q4, q5⟩ := hk
        exact ⟨by omega, q2, fun j a b => by
          rcases Nat.lt_or_ge F j with q | q
          · exact q3 j q b
          · have : j = F := by omega
            rw [this]; exact hF, fun q => (by cases q), q5⟩
set_option maxHeartbeats 1000000 in
theorem same_any {w : World} {a b : Option Addr} {l : List ByteArray} {n ca cb : Nat} (ha : Txs w a l) (hb : Txs w b l) (hn : l.length = n) (hm : n ≤ 1000000000000) :
    Calls Try.prog 16 #[.slice a n ca, .slice b n cb] w fun e w' => e = .returned (.bool true) ∧ Below w.heap.size w w' := by
  have HA := hid ha
  have HB := hid hb
  have HN := hid hn
  clear ha hb hn
  go_enter Try.func16, Try.ntmps16
  go_wp2_with fail
  go_loopw [5] (fun i wr => ∃ j : Nat, j ≤ n ∧ i = .int .i64 j ∧ Below w.heap.size w wr) (fun i _ => n - (intOf i).toNat)
  case atStart => exact ⟨0, Nat.zero_le _, rfl, Below.refl _ _⟩
  case round =>
    obtain ⟨j, hj, rfl, hbw⟩ := hrel
    by_cases hlt : j < n
    · obtain ⟨ba, oa, rfl, hca⟩ := (HA.out.kept (S := []) (Kept.of_below hbw) (fun x _ => by simp)).at (show j < l.length by rw [HN.out]; exact hlt)
      obtain ⟨bb, ob, rfl, hcb⟩ := (HB.out.kept (S := []) (Kept.of_below hbw) (fun x _ => by simp)).at (show j < l.length by rw [HN.out]; exact hlt)
      have x1 := hca j (by rw [HN.out]; exact hlt)
      have x2 := hcb j (by rw [HN.out]; exact hlt)
      obtain ⟨X, eX⟩ : ∃ X, X = l.getD j ByteArray.empty := ⟨_, rfl⟩
      rw [← eX] at x1 x2
      clear hca hcb eX
      go_upto_region 6 with fail
      go_region
      go_wp2_with fail
      exact ⟨⟨j + 1, by omega, by go_num, hbw.drew⟩, by simp [intOf]; omega⟩
    · obtain rfl : j = n := by omega
      go_wp2_with fail
      go_ret
      exact ⟨rfl, hbw⟩
end Go.Proofs.Ytbmdjfolfmgmmag
namespace Go.Proofs.Ytbmdjfolfmgmmag
open Go.ChangeShapes Go.WideShapes Go.ChangeAt Go.RowKit
/-- A sender and a receiver, the reference's two, what came out; and what lies beside them. -/
structure GpS where
  gs : Nat
  gr : Nat
  bm : Nat
  ga : Nat
  gb : Nat
def Gp (w wr : World) (G : GpS) (s1 : SdM) (r1 : GcM) (s2 : SdM) (r2 : GcM) (K : Nat) (vo : Value) (out : List PktM) (X : List (Cmp × List Nat)) : Prop :=
  ∃ Fs Fr Fa Fb Fo, Sep w wr ((sndC G.gs s1, Fs) :: (rcvC G.gr G.bm r1, Fr) :: (gvC G.ga s2, Fa) :: (gtC G.gb r2 K, Fb) :: (pksC vo out, Fo) :: X)
theorem grown_cons {n g : Nat} {F F' : List Nat} (h : Grown n F F') : Grown n (g :: F) (g :: F') := fun x hx => by
  rcases List.mem_cons.1 hx with rfl | hx
  · exact .inl List.mem_cons_self
  · rcases h x hx with q | q
    · exact .inl (List.mem_cons_of_mem _ q)
    · exact .inr q
theorem grown_refl (n : Nat) (F : List Nat) : Grown n F F := fun _ hx => .inl hx
theorem Gp.below {w wr w' : World} {G : GpS} {s1 s2 : SdM} {r1 r2 : GcM} {K : Nat} {vo : Value} {out : List PktM} {X : List (Cmp × List Nat)} (h : Gp w wr G s1 r1 s2 r2 K vo out X) (hb : Below wr.heap.size wr w') : Gp w w' G s1 r1 s2 r2 K vo out X := by
  obtain ⟨Fs, Fr, Fa, Fb, Fo, h⟩ := h
  exact ⟨_, _, _, _, _, h.below hb⟩
theorem Gp.bel {w wr : World} {G : GpS} {s1 s2 : SdM} {r1 r2 : GcM} {K : Nat} {vo : Value} {out : List PktM} {X : List (Cmp × List Nat)} (h : Gp w wr G s1 r1 s2 r2 K vo out X) : Below w.heap.size w wr := by
  obtain ⟨Fs, Fr, Fa, Fb, Fo, h⟩ := h
  exact h.bel
theorem Gp.out {w wr : World} {G : GpS} {s1 s2 : SdM} {r1 r2 : GcM} {K : Nat} {vo : Value} {out : List PktM} {X : List (Cmp × List Nat)} (h : Gp w wr G s1 r1 s2 r2 K vo out X) : wr.ownsRow 0 43 3 vo out.length (cellsPk out) := by
  obtain ⟨Fs, Fr, Fa, Fb, Fo, h⟩ := h
  exact (h.each (pksC vo out, Fo) (by simp)).2
theorem Gp.ok1 {w wr : World} {G : GpS} {s1 s2 : SdM} {r1 r2 : GcM} {K : Nat} {vo : Value} {out : List PktM} {X : List (Cmp × List Nat)} (h : Gp w wr G s1 r1 s2 r2 K vo out X) : s1.Ok ∧ r1.Ok := by
  obtain ⟨Fs, Fr, Fa, Fb, Fo, h⟩ := h
  obtain ⟨v, -, hs⟩ := h.each (sndC G.gs s1, Fs) (by simp)
  have hr := (h.each (rcvC G.gr G.bm r1, Fr) (by simp)).2
  exact ⟨hs.ok, hr.ok⟩
theorem Gp.send1 {w wr : World} {G : GpS} {s1 s2 : SdM} {r1 r2 : GcM} {K : Nat} {vo : Value} {out : List PktM} {X : List (Cmp × List Nat)} (h : Gp w wr G s1 r1 s2 r2 K vo out X) {d : ByteArray} (hd : d.size ≤ 500) (hf : s1.nxt < 16777216) :
    Calls Try.prog 8 #[.pointer (some ⟨G.gs, 0, none⟩), .string d] wr fun e w' => e = .returned (.tuple #[(pktG s1.key s1.nxt d).val, .int .i64 0]) ∧ Gp w w' G (s1.send d) r1 s2 r2 K vo out X := by
  obtain ⟨Fs, Fr, Fa, Fb, Fo, h⟩ := h
  obtain ⟨v, rfl, hs⟩ := h.each (sndC G.gs s1, Fs) (by simp)
  refine (gsend_ok hs hd hf).mono ?_
  rintro e w' ⟨rfl, hK, v', hP, hg⟩
  exact ⟨rfl, _, _, _, _, _, Sep.step [] h hK (c' := sndC G.gs (s1.send d)) (F' := sdF G.gs v') ⟨v', rfl, hP⟩ (grown_cons hg)⟩
theorem Gp.send2 {w wr : World} {G : GpS} {s1 s2 : SdM} {r1 r2 : GcM} {K : Nat} {vo : Value} {out : List PktM} {X : List (Cmp × List Nat)} (h : Gp w wr G s1 r1 s2 r2 K vo out X) {d : ByteArray} (hd : d.size ≤ 500) (hf : s2.nxt < 16777216) :
    Calls Try.prog 9 #[.pointer (some ⟨G.ga, 0, none⟩), .string d] wr fun e w' => e = .returned (.tuple #[(pktG s2.key s2.nxt d).val, .int .i64 0]) ∧ Gp w w' G s1 r1 (s2.send d) r2 K vo out X := by
  obtain ⟨Fs, Fr, Fa, Fb, Fo, h⟩ := h
  obtain ⟨v, L, rfl, hs⟩ := h.each (gvC G.ga s2, Fa) (by simp)
  refine (rsend_ok hs hd hf).mono ?_
  rintro e w' ⟨rfl, hK, v', hP, hg⟩
  exact ⟨rfl, _, _, _, _, _, Sep.step [(sndC G.gs s1, Fs), (rcvC G.gr G.bm r1, Fr)] h hK (c' := gvC G.ga (s2.send d)) (F' := gvF G.ga v') ⟨v', _, rfl, hP⟩ (grown_cons hg)⟩
/-- What Confirm answers, and leaves. -/
def confErr (m : SdM) (c : Int) : Int := if 0 ≤ c ∧ c < (m.nxt : Int) then 0 else 6
def SdM.conf (m : SdM) (c : Int) : SdM := if 0 ≤ c ∧ c < (m.nxt : Int) then m.confirm c.toNat else m
theorem Gp.conf1 {w wr : World} {G : GpS} {s1 s2 : SdM} {r1 r2 : GcM} {K : Nat} {vo : Value} {out : List PktM} {X : List (Cmp × List Nat)} (h : Gp w wr G s1 r1 s2 r2 K vo out X) (c : Int) :
    Calls Try.prog 10 #[.pointer (some ⟨G.gs, 0, none⟩), .int .i64 c] wr fun e w' => e = .returned (.int .i64 (confErr s1 c)) ∧ Gp w w' G (s1.conf c) r1 s2 r2 K vo out X := by
  have h0 := h
  obtain ⟨Fs, Fr, Fa, Fb, Fo, h⟩ := h
  obtain ⟨v, rfl, hs⟩ := h.each (sndC G.gs s1, Fs) (by simp)
  unfold confErr SdM.conf
  by_cases hc : 0 ≤ c ∧ c < (s1.nxt : Int)
  · rw [if_pos hc, if_pos hc]
    have h1 := gconf_ok (c := c.toNat) hs (by omega)
    rw [show ((c.toNat : Nat) : Int) = c by omega] at h1
    refine h1.mono ?_
    rintro e w' ⟨rfl, hK, v', hP, hg⟩
    exact ⟨rfl, _, _, _, _, _, Sep.step [] h hK (c' := sndC G.gs (s1.confirm c.toNat)) (F' := sdF G.gs v') ⟨v', rfl, hP⟩ (grown_cons hg)⟩
  · rw [if_neg hc, if_neg hc]
    refine (gconf_bad hs (by omega)).mono ?_
    rintro e w' ⟨rfl, hb⟩
    exact ⟨rfl, h0.below hb⟩
theorem Gp.conf2 {w wr : World} {G : GpS} {s1 s2 : SdM} {r1 r2 : GcM} {K : Nat} {vo : Value} {out : List PktM} {X : List (Cmp × List Nat)} (h : Gp w wr G s1 r1 s2 r2 K vo out X) (c : Int) :
    Calls Try.prog 11 #[.pointer (some ⟨G.ga, 0, none⟩), .int .i64 c] wr fun e w' => e = .returned (.int .i64 (confErr s2 c)) ∧ Gp w w' G s1 r1 (s2.conf c) r2 K vo out X := by
  have h0 := h
  obtain ⟨Fs, Fr, Fa, Fb, Fo, h⟩ := h
  obtain ⟨v, L, rfl, hs⟩ := h.each (gvC G.ga s2, Fa) (by simp)
  unfold confErr SdM.conf
  by_cases hc : 0 ≤ c ∧ c < (s2.nxt : Int)
  · rw [if_pos hc, if_pos hc]
    have h1 := rconf_ok (c := c.toNat) hs (by omega)
    rw [show ((c.toNat : Nat) : Int) = c by omega] at h1
    refine h1.mono ?_
    rintro e w' ⟨rfl, hK, v', hP, hg⟩
    exact ⟨rfl, _, _, _, _, _, Sep.step [(sndC G.gs s1, Fs), (rcvC G.gr G.bm r1, Fr)] h hK (c' := gvC G.ga (s2.confirm c.toNat)) (F' := gvF G.ga v') ⟨v', _, rfl, hP⟩ (grown_cons hg)⟩
  · rw [if_neg hc, if_neg hc]
    refine (rconf_bad hs (by omega)).mono ?_
    rintro e w' ⟨rfl, hb⟩
    exact ⟨rfl, h0.below hb⟩
theorem Gp.move1 {w wr : World} {G : GpS} {s1 s2 : SdM} {r1 r2 : GcM} {K : Nat} {vo : Value} {out : List PktM} {X : List (Cmp × List Nat)} (h : Gp w wr G s1 r1 s2 r2 K vo out X) {k : Int} (hk : keyOk k = true) :
    Calls Try.prog 12 #[.pointer (some ⟨G.gs, 0, none⟩), .int .i64 k] wr fun e w' => ∃ a n c, e = .returned (.tuple #[.slice a n c, .int .i64 0]) ∧ n = (s1.again k).length ∧ Gp w w' G (s1.move k) r1 s2 r2 K vo out (X ++ [(pksC (.slice a n c) (s1.again k), ownB (.slice a n c))]) := by
  obtain ⟨Fs, Fr, Fa, Fb, Fo, h⟩ := h
  obtain ⟨v, rfl, hs⟩ := h.each (sndC G.gs s1, Fs) (by simp)
  refine (gmove_ok hs hk).mono ?_
  rintro e w' ⟨G1, rfl, hG, hA, hK, hP⟩
  have h1 := Sep.step [] h hK (c' := sndC G.gs (s1.move k)) (F' := sdF G.gs v) ⟨v, rfl, hP⟩ (grown_refl _ _)
  refine ⟨_, _, _, rfl, by rw [SdM.again_length], _, _, _, _, _, h1.add (n := wr.heap.size) h.bel.size (fun d hd x hx => ?_) _ _ ⟨rfl, ?_⟩ (fun x hx => ?_)⟩
  · rcases List.mem_cons.1 hd with rfl | hd
    · exact hs.lt x hx
    · exact h.lts d (List.mem_cons_of_mem _ hd) x hx
  · have hf : s1.wait.length ≤ 16777216 := by
      have : s1.beg + s1.wait.length ≤ 16777216 := hs.ok.few
      omega
    rw [SdM.again_length]
    refine ⟨by rw [cellsPk_length, SdM.again_length], .inr ⟨G1, _, _, rfl, Nat.zero_le _, hA, Nat.le_refl _, by unfold maxLen; omega, by simp [cellsPk_length, SdM.again_length], ?_⟩⟩
    rw [List.take_of_length_le]
    simp [cellsPk_length, SdM.again_length]
  · have : x = G1 := by simpa [ownB, Value.ownBlock] using hx
    omega
theorem Gp.move2 {w wr : World} {G : GpS} {s1 s2 : SdM} {r1 r2 : GcM} {K : Nat} {vo : Value} {out : List PktM} {X : List (Cmp × List Nat)} (h : Gp w wr G s1 r1 s2 r2 K vo out X) {k : Int} (hk : keyOk k = true) :
    Calls Try.prog 13 #[.pointer (some ⟨G.ga, 0, none⟩), .int .i64 k] wr fun e w' => ∃ a n c, e = .returned (.tuple #[.slice a n c, .int .i64 0]) ∧ n = (s2.again k).length ∧ Gp w w' G s1 r1 (s2.move k) r2 K vo out (X ++ [(pksC (.slice a n c) (s2.again k), ownB (.slice a n c))]) := by
  obtain ⟨Fs, Fr, Fa, Fb, Fo, h⟩ := h
  obtain ⟨v, L, rfl, hs⟩ := h.each (gvC G.ga s2, Fa) (by simp)
  refine (rmove_ok hs hk).mono ?_
  rintro e w' ⟨v', rfl, ho, hK, hP⟩
  obtain ⟨a, c, rfl, -, -, -⟩ := row_shape ho
  have h1 := Sep.step [(sndC G.gs s1, Fs), (rcvC G.gr G.bm r1, Fr)] h hK (c' := gvC G.ga (s2.move k)) (F' := gvF G.ga v) ⟨v, L, rfl, hP⟩ (grown_refl _ _)
  refine ⟨_, _, _, rfl, rfl, _, _, _, _, _, h1.add (n := wr.heap.size) h.bel.size (fun d hd x hx => ?_) _ _ ⟨rfl, row_zero ho⟩ (fun x hx => (row_new ho x hx).1)⟩
  have hall := h.lts
  rcases List.mem_append.1 hd with hd | hd
  · exact hall d (List.mem_append_left _ hd) x hx
  · rcases List.mem_cons.1 hd with rfl | hd
    · exact hs.lt x hx
    · exact hall d (List.mem_cons_of_mem _ (List.mem_cons_of_mem _ (List.mem_cons_of_mem _ hd))) x hx
theorem Gp.rmove1 {w wr : World} {G : GpS} {s1 s2 : SdM} {r1 r2 : GcM} {K : Nat} {vo : Value} {out : List PktM} {X : List (Cmp × List Nat)} (h : Gp w wr G s1 r1 s2 r2 K vo out X) {k : Int} (hk : keyOk k = true) :
    Calls Try.prog 17 #[.pointer (some ⟨G.gr, 0, none⟩), .int .i64 k] wr fun e w' => e = .returned (.int .i64 0) ∧ Gp w w' G s1 (r1.move k) s2 r2 K vo out X := by
  obtain ⟨Fs, Fr, Fa, Fb, Fo, h⟩ := h
  obtain ⟨rfl, hr⟩ := h.each (rcvC G.gr G.bm r1, Fr) (by simp)
  refine (grmove_ok hr hk).mono ?_
  rintro e w' ⟨rfl, hK, hP⟩
  exact ⟨rfl, _, _, _, _, _, Sep.step [(sndC G.gs s1, Fs)] h hK (c' := rcvC G.gr G.bm (r1.move k)) (F' := gcF G.gr G.bm) ⟨rfl, hP⟩ (grown_refl _ _)⟩
theorem Gp.count1 {w wr : World} {G : GpS} {s1 s2 : SdM} {r1 r2 : GcM} {K : Nat} {vo : Value} {out : List PktM} {X : List (Cmp × List Nat)} (h : Gp w wr G s1 r1 s2 r2 K vo out X) :
    Calls Try.prog 20 #[.pointer (some ⟨G.gr, 0, none⟩)] wr fun e w' => e = .returned (.int .i64 (r1.fst : Int)) ∧ wr = w' := by
  obtain ⟨Fs, Fr, Fa, Fb, Fo, h⟩ := h
  exact gcount_any (h.each (rcvC G.gr G.bm r1, Fr) (by simp)).2
/-- The reference's receiver: its first, its key. -/
theorem Gp.first2 {w wr : World} {G : GpS} {s1 s2 : SdM} {r1 r2 : GcM} {K : Nat} {vo : Value} {out : List PktM} {X : List (Cmp × List Nat)} (h : Gp w wr G s1 r1 s2 r2 K vo out X) : wr.cell? ⟨G.gb, 1, none⟩ = some (.int .i64 (r2.fst : Int)) ∧ wr.cell? ⟨G.gb, 0, none⟩ = some (.int .i64 r2.key) ∧ wr.frozen? ⟨G.gb, 0, none⟩ = false := by
  obtain ⟨Fs, Fr, Fa, Fb, Fo, h⟩ := h
  obtain ⟨vc, vd, cs, dd, -, hg, -⟩ := h.each (gtC G.gb r2 K, Fb) (by simp)
  exact ⟨hg.hd.cell 1, hg.hd.cell 0, hg.hd.free 0⟩
theorem Gp.rmove2 {w wr : World} {G : GpS} {s1 s2 : SdM} {r1 r2 : GcM} {K : Nat} {vo : Value} {out : List PktM} {X : List (Cmp × List Nat)} (h : Gp w wr G s1 r1 s2 r2 K vo out X) {k : Int} (hk : keyOk k = true) : Gp w (wr.setCell ⟨G.gb, 0, none⟩ (.int .i64 k)) G s1 r1 s2 (r2.move k) K vo out X := by
  obtain ⟨Fs, Fr, Fa, Fb, Fo, h⟩ := h
  obtain ⟨vc, vd, cs, dd, rfl, hg, hl⟩ := h.each (gtC G.gb r2 K, Fb) (by simp)
  have hk1 : Kept [G.gb] wr (wr.setCell ⟨G.gb, 0, none⟩ (.int .i64 k)) := (Kept.refl _ wr).setCell (by simp) _
  have hP : PGt (wr.setCell ⟨G.gb, 0, none⟩ (.int .i64 k)) G.gb vc vd cs dd (r2.move k) := ⟨hg.hd.setCellG 0 _, row_kept hg.rowc hk1 (fun x hx q => hg.nec (by rw [List.mem_singleton] at q; rw [← q]; exact hx)), row_kept hg.rowd hk1 (fun x hx q => hg.ned (by rw [List.mem_singleton] at q; rw [← q]; exact hx)), hg.len, hg.nec, hg.ned, hg.nc, hg.look, hg.top, ⟨keyOk_bd hk, hg.ok.few, hg.ok.past, hg.ok.top⟩⟩
  exact ⟨_, _, _, _, _, Sep.step [(sndC G.gs s1, Fs), (rcvC G.gr G.bm r1, Fr), (gvC G.ga s2, Fa)] h (hk1.wider (fun x hx => by rw [List.mem_singleton] at hx; subst hx; exact List.mem_cons_self)) (c' := gtC G.gb (r2.move k) K) (F' := gtF G.gb vc vd) ⟨vc, vd, cs, dd, rfl, hP, hl⟩ (grown_refl _ _)⟩
end Go.Proofs.Ytbmdjfolfmgmmag
