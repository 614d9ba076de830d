import Derived.Test.YtdgdklmgnnhadafK04
namespace Go.Proofs.Ytdgdklmgnnhadaf
open Go.ChangeShapes Go.WideShapes Go.ChangeAt Go.RowKit
structure Cl (Snd : World → Addr → List Nat → OutM → Prop) (Rcv : World → Addr → List Nat → InM → Prop) (p q : Addr) (rb tb sb : Nat) (asl : Option Addr) (ns cs : Nat) (texts : List ByteArray) (B : Nat) (w0 w : World) (F G : List Nat) (m : OutM) (r : InM) : Prop where
  snd : Snd w p F m
  rcv : Rcv w q G r
  pair : Pair m r
  text : m.text = texts
  c1 : w.cell? ⟨rb, 0, none⟩ = some (.pointer (some q))
  tl : ArrAt .i64 3 w tb [(r.fst : Int)]
  c3 : w.cell? ⟨sb, 0, none⟩ = some (.slice asl ns cs)
  tx : Txs w asl texts
  fg : ∀ x ∈ F, x ∉ G
  ft : tb ∉ F
  gt : tb ∉ G
  fr : rb ∉ F
  gr : rb ∉ G
  fs : sb ∉ F
  gs : sb ∉ G
  fa : NotIn F asl
  ga : NotIn G asl
  ts : tb ≠ sb
  tr : tb ≠ rb
  ta : NotIn [tb] asl
  al : ∀ x, asl = some x → x.block < w.heap.size
  bf : ∀ x ∈ F, B ≤ x
  bg : ∀ x ∈ G, B ≤ x
  bt : B ≤ tb
  bw : B ≤ w.heap.size
  bel : Below B w0 w
theorem Grown.out {F F' : List Nat} {n x : Nat} (h : Grown n F F') (hx : x ∉ F) (hl : x < n) : x ∉ F' := fun e => by
  rcases h x e with g | g
  · exact hx g
  · omega
theorem Grown.outA {F F' : List Nat} {n : Nat} {a : Option Addr} (h : Grown n F F') (hx : NotIn F a) (hl : ∀ x, a = some x → x.block < n) : NotIn F' a := fun x e => h.out (hx x e) (hl x e)
theorem Grown.low {B : Nat} {F F' : List Nat} {n : Nat} (h : Grown n F F') (hb : ∀ x ∈ F, B ≤ x) (hl : B ≤ n) : ∀ x ∈ F', B ≤ x := fun x hx => by
  rcases h x hx with g | g
  · exact hb x g
  · omega
theorem Cl.lr {Snd : World → Addr → List Nat → OutM → Prop} {Rcv : World → Addr → List Nat → InM → Prop} {p q : Addr} {rb tb sb : Nat} {asl : Option Addr} {ns cs : Nat} {texts : List ByteArray} {B : Nat} {w0 w : World} {F G : List Nat} {m : OutM} {r : InM} (h : Cl Snd Rcv p q rb tb sb asl ns cs texts B w0 w F G m r) : rb < w.heap.size := World.block_lt_of_cell? w _ h.c1
theorem Cl.lt {Snd : World → Addr → List Nat → OutM → Prop} {Rcv : World → Addr → List Nat → InM → Prop} {p q : Addr} {rb tb sb : Nat} {asl : Option Addr} {ns cs : Nat} {texts : List ByteArray} {B : Nat} {w0 w : World} {F G : List Nat} {m : OutM} {r : InM} (h : Cl Snd Rcv p q rb tb sb asl ns cs texts B w0 w F G m r) : tb < w.heap.size := h.tl.lt
theorem Cl.ls {Snd : World → Addr → List Nat → OutM → Prop} {Rcv : World → Addr → List Nat → InM → Prop} {p q : Addr} {rb tb sb : Nat} {asl : Option Addr} {ns cs : Nat} {texts : List ByteArray} {B : Nat} {w0 w : World} {F G : List Nat} {m : OutM} {r : InM} (h : Cl Snd Rcv p q rb tb sb asl ns cs texts B w0 w F G m r) : sb < w.heap.size := World.block_lt_of_cell? w _ h.c3
/-- The sender did something. -/
theorem Cl.sends {Snd : World → Addr → List Nat → OutM → Prop} {Rcv : World → Addr → List Nat → InM → Prop} {p q : Addr} {rb tb sb : Nat} {asl : Option Addr} {ns cs : Nat} {texts : List ByteArray} {B : Nat} {w0 w w' : World} {F F' G : List Nat} {m m' : OutM} {r : InM} (L : RepLaws Snd Rcv) (h : Cl Snd Rcv p q rb tb sb asl ns cs texts B w0 w F G m r) (hk : Kept F w w') (hs : Snd w' p F' m') (hg : Grown w.heap.size F F') (hp : Pair m' r) (ht : m'.text = m.text) : Cl Snd Rcv p q rb tb sb asl ns cs texts B w0 w' F' G m' r := by
  have hl := hk.size
  refine ⟨hs, L.rkept h.rcv hk (fun x hx e => h.fg x e hx), hp, ht.trans h.text, keptCellQ hk h.c1 h.fr, h.tl.kept hk h.ft, keptCellQ hk h.c3 h.fs, h.tx.kept hk h.fa, ?_, hg.out h.ft h.lt, h.gt, hg.out h.fr h.lr, h.gr, hg.out h.fs h.ls, h.gs, hg.outA h.fa h.al, h.ga, h.ts, h.tr, h.ta, fun x e => Nat.lt_of_lt_of_le (h.al x e) hl, hg.low h.bf h.bw, h.bg, h.bt, Nat.le_trans h.bw hl, h.bel.trans (hk.below h.bw h.bf)⟩
  intro x hx hx2
  rcases hg x hx with g | g
  · exact h.fg x g hx2
  · have := L.rlt h.rcv x hx2
    omega
/-- The receiver did something. -/
theorem Cl.takes {Snd : World → Addr → List Nat → OutM → Prop} {Rcv : World → Addr → List Nat → InM → Prop} {p q : Addr} {rb tb sb : Nat} {asl : Option Addr} {ns cs : Nat} {texts : List ByteArray} {B : Nat} {w0 w w' : World} {F G G' : List Nat} {m : OutM} {r r' : InM} (L : RepLaws Snd Rcv) (h : Cl Snd Rcv p q rb tb sb asl ns cs texts B w0 w F G m r) (hk : Kept (tb :: G) w w') (hr : Rcv w' q G' r') (hg : Grown w.heap.size G G') (ht : ArrAt .i64 3 w' tb [(r'.fst : Int)]) (hp : Pair m r') : Cl Snd Rcv p q rb tb sb asl ns cs texts B w0 w' F G' m r' := by
  have hl := hk.size
  have hn : ∀ x, x ≠ tb → x ∉ G → x ∉ tb :: G := fun x h1 h2 e => by
    rcases List.mem_cons.mp e with e | e
    · exact h1 e
    · exact h2 e
  refine ⟨L.skept h.snd hk (fun x hx => hn x (fun e => h.ft (e ▸ hx)) (h.fg x hx)), hr, hp, h.text, keptCellQ hk h.c1 (hn rb h.tr.symm h.gr), ht, keptCellQ hk h.c3 (hn sb h.ts.symm h.gs), h.tx.kept hk (fun x e => hn _ (by simpa using h.ta x e) (h.ga x e)), ?_, h.ft, hg.out h.gt h.lt, h.fr, hg.out h.gr h.lr, h.fs, hg.out h.gs h.ls, h.fa, hg.outA h.ga h.al, h.ts, h.tr, h.ta, fun x e => Nat.lt_of_lt_of_le (h.al x e) hl, h.bf, hg.low h.bg h.bw, h.bt, Nat.le_trans h.bw hl, h.bel.trans (hk.below h.bw ?_)⟩
  · intro x hx hx2
    rcases hg x hx2 with g | g
    · exact h.fg x hx g
    · have := L.slt h.snd x hx
      omega
  · intro x hx
    rcases List.mem_cons.mp hx with rfl | hx
    · exact h.bt
    · exact h.bg x hx
theorem Cl.tells {Snd : World → Addr → List Nat → OutM → Prop} {Rcv : World → Addr → List Nat → InM → Prop} {p q : Addr} {rb tb sb : Nat} {asl : Option Addr} {ns cs : Nat} {texts : List ByteArray} {B : Nat} {w0 w w' : World} {F G G' : List Nat} {m : OutM} {r : InM} (L : RepLaws Snd Rcv) (h : Cl Snd Rcv p q rb tb sb asl ns cs texts B w0 w F G m r) (hk : Kept G w w') (hr : Rcv w' q G' r) (hg : Grown w.heap.size G G') : Cl Snd Rcv p q rb tb sb asl ns cs texts B w0 w' F G' m r :=
  h.takes L (hk.wider fun _ hx => List.mem_cons_of_mem _ hx) hr hg (h.tl.kept hk h.gt) h.pair
theorem Cl.mem {Snd : World → Addr → List Nat → OutM → Prop} {Rcv : World → Addr → List Nat → InM → Prop} {p q : Addr} {rb tb sb : Nat} {asl : Option Addr} {ns cs : Nat} {texts : List ByteArray} {B : Nat} {w0 w w' : World} {F G : List Nat} {m : OutM} {r : InM} (L : RepLaws Snd Rcv) (h : Cl Snd Rcv p q rb tb sb asl ns cs texts B w0 w F G m r) (hb : Below w.heap.size w w') : Cl Snd Rcv p q rb tb sb asl ns cs texts B w0 w' F G m r :=
  h.tells L (Kept.of_below hb) (L.rkept h.rcv (Kept.of_below (S := []) hb) (by simp)) (fun _ hx => Or.inl hx)
/-- A piece comes. -/
theorem Cl.come {Snd : World → Addr → List Nat → OutM → Prop} {Rcv : World → Addr → List Nat → InM → Prop} {p q : Addr} {rb tb sb : Nat} {asl : Option Addr} {ns cs : Nat} {texts : List ByteArray} {B : Nat} {w0 w : World} {F G : List Nat} {m : OutM} {r : InM} (L : RepLaws Snd Rcv) (h : Cl Snd Rcv p q rb tb sb asl ns cs texts B w0 w F G m r) (hns : texts.length = ns) (h50 : ns ≤ 50) {u : Nat} {x : PieceM} (hk : Known m u x) (hf : r.fst ≤ u + 32) :
    Calls Try.prog 28 #[x.val, .pointer (some ⟨rb, 0, none⟩), .pointer (some ⟨tb, 0, none⟩), .pointer (some ⟨sb, 0, none⟩)] w fun e w' => e = .returned (.bool true) ∧ Kept (tb :: G) w w' ∧ ∃ G', Grown w.heap.size G G' ∧ Cl Snd Rcv p q rb tb sb asl ns cs texts B w0 w' F G' m (r.take x).m := by
  obtain ⟨h1, _, _, h4, h5⟩ := h.pair.come hk hf
  obtain ⟨a, b, rfl, _, hbs, hun, _⟩ := id hk
  have hsz := h.pair.size u hun
  have hup := h1.up
  have hup0 := h.pair.up
  have hn : m.n = ns := by unfold OutM.n; rw [h.text]; exact hns
  have hdata : (m.piece u a b).data.size ≤ manyB := by
    show ((m.t u).extract a b).size ≤ manyB
    rw [ByteArray.size_extract]
    have : b ≤ (m.t u).size := hbs
    have : (m.t u).size ≤ 1500 := hsz.2
    unfold manyB
    omega
  refine (come_any L (m.piece u a b) rb tb sb asl ns cs h.rcv (by unfold manyU; omega) hdata h.c1 h.tl h.c3 h.tx hns (by unfold manyU; omega) h.gt h.gs h.ga h.ts h.ta h.al (by rw [← h.text]; exact h5) h4 (by rw [hns, ← hn]; exact hup)).mono ?_
  rintro e w1 ⟨rfl, hk1, ⟨G', hr1, hg1⟩, ht1⟩
  exact ⟨rfl, hk1, G', hg1, h.takes L hk1 hr1 hg1 ht1 h1⟩
end Go.Proofs.Ytdgdklmgnnhadaf
namespace Go.Proofs.Ytdgdklmgnnhadaf
open Go.ChangeShapes Go.WideShapes Go.ChangeAt Go.RowKit
theorem Cl.few {Snd : World → Addr → List Nat → OutM → Prop} {Rcv : World → Addr → List Nat → InM → Prop} {p q : Addr} {rb tb sb : Nat} {asl : Option Addr} {ns cs : Nat} {texts : List ByteArray} {B : Nat} {w0 w : World} {F G : List Nat} {m : OutM} {r : InM} (h : Cl Snd Rcv p q rb tb sb asl ns cs texts B w0 w F G m r) (hns : texts.length = ns) (h50 : ns ≤ 50) : m.n = ns ∧ m.n ≤ manyU ∧ r.fst ≤ manyU ∧ r.fst ≤ ns := by
  have hn : m.n = ns := by unfold OutM.n; rw [h.text]; exact hns
  have := h.pair.up
  unfold manyU
  omega
theorem emp_falseR {s : ByteArray} (h : s.size ≠ 0) : s.toList.isEmpty = false := by
  rw [ByteArray.toList_eq]
  cases hq : s.data.toList with
  | nil =>
    have e : s.data.toList.length = s.size := by rw [Array.length_toList]; rfl
    rw [hq] at e
    simp at e
    omega
  | cons x l => rfl
theorem piece_new (w : World) (x : PieceM) : (w.alloc (.cells #[.int .i64 x.num, .int .i64 x.frm, .bool x.last, .string x.data] 64)).cell? ⟨w.heap.size, 0, none⟩ = some (.int .i64 x.num) ∧ (w.alloc (.cells #[.int .i64 x.num, .int .i64 x.frm, .bool x.last, .string x.data] 64)).cell? ⟨w.heap.size, 1, none⟩ = some (.int .i64 x.frm) ∧ (w.alloc (.cells #[.int .i64 x.num, .int .i64 x.frm, .bool x.last, .string x.data] 64)).cell? ⟨w.heap.size, 2, none⟩ = some (.bool x.last) ∧ (w.alloc (.cells #[.int .i64 x.num, .int .i64 x.frm, .bool x.last, .string x.data] 64)).cell? ⟨w.heap.size, 3, none⟩ = some (.string x.data) := by
  have hnew := heap_alloc_new w (.cells #[.int .i64 x.num, .int .i64 x.frm, .bool x.last, .string x.data] 64)
  refine ⟨?_, ?_, ?_, ?_⟩ <;> rw [cell_of_row _ _ _ _ _ _ hnew] <;> rfl
/-- A report, and that it is taken. -/
theorem Cl.reports {Snd : World → Addr → List Nat → OutM → Prop} {Rcv : World → Addr → List Nat → InM → Prop} {p q : Addr} {rb tb sb : Nat} {asl : Option Addr} {ns cs : Nat} {texts : List ByteArray} {B : Nat} {w0 w : World} {F G : List Nat} {m : OutM} {r : InM} (L : RepLaws Snd Rcv) (h : Cl Snd Rcv p q rb tb sb asl ns cs texts B w0 w F G m r) (hns : texts.length = ns) (h50 : ns ≤ 50) :
    Calls Try.prog 27 #[.pointer (some q)] w fun e w' => ∃ a n c, e = .returned (.agg #[.int .i64 r.report.next, .slice a n c]) ∧ ∃ G', Grown w.heap.size G G' ∧ Kept G w w' ∧ Cl Snd Rcv p q rb tb sb asl ns cs texts B w0 w' F G' m r ∧ Calls Try.prog 22 #[.pointer (some p), .agg #[.int .i64 r.report.next, .slice a n c]] w' fun e w'' => e = .returned (.int .i64 0) ∧ Kept F w' w'' ∧ ∃ F', Grown w'.heap.size F F' ∧ Cl Snd Rcv p q rb tb sb asl ns cs texts B w0 w'' F' G' (m.taken (r.nxt - m.beg) r.report.miss) r := by
  have hf := h.few hns h50
  refine (L.report h.rcv hf.2.2.1).mono ?_
  rintro e w1 ⟨a, n, c, rfl, hgp, hn, hnl, hnew, hk, G', hr', hg, hni⟩
  have h1 := h.tells L hk hr' hg
  refine ⟨a, n, c, rfl, G', hg, hk, h1, ?_⟩
  have hte := h.pair.take_eq
  have htk := L.take r.report a n c h1.snd hf.2.1 hgp (hnew.notIn (fun x hx => L.slt h.snd x hx)) hn hnl
  rw [hte] at htk
  refine htk.mono ?_
  rintro e w2 ⟨rfl, hk2, F', hs2, hg2⟩
  exact ⟨rfl, hk2, F', hg2, h1.sends L hk2 hs2 hg2 h.pair.taken rfl⟩
set_option maxRecDepth 100000 in
set_option maxHeartbeats 8000000 in
theorem clean_any {Snd : World → Addr → List Nat → OutM → Prop} {Rcv : World → Addr → List Nat → InM → Prop} {p q : Addr} {rb tb sb : Nat} {asl : Option Addr} {ns cs : Nat} {texts : List ByteArray} {B : Nat} {w0 w : World} {F G : List Nat} {m : OutM} {r : InM} (L : RepLaws Snd Rcv) (h : Cl Snd Rcv p q rb tb sb asl ns cs texts B w0 w F G m r) (hns : texts.length = ns) (h50 : ns ≤ 50) :
    Calls Try.prog 30 #[.pointer (some p), .func (.func 28) #[] #[.pointer (some ⟨rb, 0, none⟩), .pointer (some ⟨tb, 0, none⟩), .pointer (some ⟨sb, 0, none⟩)], .pointer (some q), .int .i64 ns, .pointer (some ⟨tb, 0, none⟩)] w fun e w' => e = .returned (.bool true) ∧ Below B w0 w' := by
  have HNS := hid hns
  have H := hid h
  clear hns h
  go_enter Try.func30, Try.ntmps30
  go_wp2_with fail
  go_loopw [11] (fun vi wr => ∃ (k : Nat) (F G : List Nat) (m : OutM) (r : InM), k ≤ ns + 2 ∧ vi = .int .i64 k ∧ Hid (Cl Snd Rcv p q rb tb sb asl ns cs texts B w0 wr F G m r) ∧ Hid (k ≤ r.fst ∨ ns ≤ r.fst)) (fun vi _ => ns + 2 - (intOf vi).toNat)
  case atStart => exact ⟨0, F, G, m, r, by omega, rfl, H, hid (Or.inl (Nat.zero_le _))⟩
  case round =>
    clear H
    obtain ⟨k, F, G, m, r, hk, rfl, H, HK⟩ := hrel
    by_cases hlt : k < ns + 2
    · have x1 : decide ((k : Int) < (ns : Int) + 2) = true := decide_eq_true (by omega)
      have hrp := H.out.reports L HNS.out h50
      go_wp2_with (first
        | (go_at_call 27; refine hrp.mono ?_; rintro e w1 ⟨a1, n1, c1, rfl, G', hg1, hk1, -, htk⟩)
        | (go_at_call 22; refine htk.mono ?_; rintro e w2 ⟨rfl, hk2, F', hg2, h2⟩))
      have hfr := H.out.pair.taken_fresh
      have hbg := H.out.pair.taken_beg
      have hfw := H.out.few HNS.out h50
      have hcs := h2.pair.cost_le
      have hcn := (h2.few HNS.out h50).1
      have H2 := hid h2
      have HK2 := hid hk2
      generalize m.taken (r.nxt - m.beg) r.report.miss = m2 at *
      have HI : Hid (Fresh m2 r ∧ m2.beg = r.fst ∧ 0 + m2.cost ≤ 75000) := ⟨hfr, hbg, by rw [hcn] at hcs; omega⟩
      obtain ⟨f0, ef0⟩ : ∃ f0, f0 = r.fst := ⟨_, rfl⟩
      rw [← ef0] at HK HI
      have HF0 := hid ef0
      clear hfr hbg hfw hcs hcn h2 hk2 hk1 hrp H ef0 hg1 hg2 HK2
      go_loopw [12] (fun vk wr => ∃ (j : Nat) (F G : List Nat) (m : OutM) (r : InM), vk = .int .i64 j ∧ j ≤ 75000 ∧ Hid (Cl Snd Rcv p q rb tb sb asl ns cs texts B w0 wr F G m r) ∧ Hid (Fresh m r ∧ m.beg = f0 ∧ j + m.cost ≤ 75000)) (fun vk _ => 75001 - (intOf vk).toNat)
      case atStart => exact ⟨0, F', G', m2, r, rfl, by omega, H2, HI⟩
      case round =>
        clear H2 HI
        obtain ⟨j, F3, G3, m3, r3, rfl, hj, H3, HI3⟩ := hrel
        have hnx := L.next 1500 H3.out.snd (H3.out.few HNS.out h50).2.1
        rcases H3.out.pair.next (size := 1500) (by omega) (by omega) with ⟨u, hs⟩ | ⟨e6, e2, e0⟩
        · have HS := hid hs
          generalize m3.next 1500 = y at *
          unfold PieceM.val at hnx
          rw [hs.err] at hnx
          clear hs
          go_upto_region 9 with (go_at_call 16; refine hnx.mono ?_; rintro e w4 ⟨rfl, hk4, F4, hs4, hg4⟩)
          have h4 := H3.out.sends L hk4 hs4 hg4 HS.out.pair HS.out.text
          have hb4 : Below w4.heap.size w4 (w4.alloc (.cells #[.int .i64 y.p.num, .int .i64 y.p.frm, .bool y.p.last, .string y.p.data] 64)) := (Below.refl _ w4).alloc (Nat.le_refl _) _
          obtain ⟨q0, q1, q2, q3⟩ := piece_new w4 y.p
          have h5 := h4.mem L hb4
          have hfst : r3.fst ≤ u + 32 := by
            have g1 := H3.out.pair.fw
            have g2 := H3.out.pair.w32
            have g3 := HS.out.lo
            omega
          have hcm := h5.come L HNS.out h50 HS.out.known hfst
          have hnb : w4.heap.size ∉ tb :: G3 := fun e => by
            rcases List.mem_cons.mp e with e | e
            · have := h4.lt; omega
            · have := L.rlt h4.rcv _ e; omega
          have HNB := hid hnb
          have hne := HS.out.ne
          have x3 : y.p.data.toList.isEmpty = false := emp_falseR hne
          have x2 : decide (100000 < (j : Int)) = false := decide_eq_false (by omega)
          have hpc := h5.pair.come HS.out.known hfst
          have HPC := hid hpc
          have H5 := hid h5
          unfold PieceM.val at hcm
          clear h4 hb4 hk4 hs4 hg4 h5 hfst hnb hne hpc
          generalize (w4.alloc (.cells #[.int .i64 y.p.num, .int .i64 y.p.frm, .bool y.p.last, .string y.p.data] 64)) = w5 at *
          go_wp2_with (go_at_call 28; refine hcm.mono ?_; rintro e w6 ⟨rfl, hk6, G6, hg6, h6⟩; have q3' := keptCellQ hk6 q3 HNB.out)
          have hfr : Fresh y.m (r3.take y.p).m := HI3.out.1.come HS.out HPC.out.2.1 HPC.out.2.2.1
          have hcost := HS.out.cost
          have hc3 := HI3.out.2.2
          exact ⟨⟨j + 1, F4, G6, y.m, (r3.take y.p).m, by go_num, by omega, h6, ⟨hfr, HS.out.beg.trans HI3.out.2.1, by omega⟩⟩, by simp [intOf]; omega⟩
        · rw [e6] at hnx
          unfold PieceM.val PieceM.zero at hnx
          dsimp only at hnx
          go_upto_region 9 with (go_at_call 16; refine hnx.mono ?_; rintro e w4 ⟨rfl, hk4, F4, hs4, hg4⟩)
          have h4 := H3.out.sends L hk4 hs4 hg4 H3.out.pair rfl
          have hb4 : Below w4.heap.size w4 (w4.alloc (.cells #[.int .i64 0, .int .i64 0, .bool false, .string ByteArray.empty] 64)) := (Below.refl _ w4).alloc (Nat.le_refl _) _
          have H5 := hid (h4.mem L hb4)
          have hall := H3.out.pair.all HI3.out.1 e2 e0
          have hn3 := (H3.out.few HNS.out h50).1
          have hlo := H3.out.pair.lo
          have hw1 := H3.out.pair.w1
          have HK5 : Hid (k + 1 ≤ r3.fst ∨ ns ≤ r3.fst) := by
            have g1 := HI3.out.2.1
            rcases HK.out with g | g <;> rcases hall with g' | g'
            · right; omega
            · left; omega
            · right; omega
            · right; omega
          clear h4 hb4 hk4 hs4 hg4 hall hn3 hlo hw1 e6 e2 e0
          generalize (w4.alloc (.cells #[.int .i64 0, .int .i64 0, .bool false, .string ByteArray.empty] 64)) = w5 at *
          go_wp2_with fail
          exact ⟨⟨k + 1, F4, G3, m3, r3, by omega, by go_num, H5, HK5⟩, by simp [intOf]; omega⟩
    · have x1 : decide ((k : Int) < (ns : Int) + 2) = false := decide_eq_false (by omega)
      have hrp := H.out.reports L HNS.out h50
      have hfw := H.out.few HNS.out h50
      have hq : r.fst = ns := by rcases HK.out with g | g <;> omega
      have hwt := H.out.pair.none (by rw [hq]; exact hfw.1.symm)
      have x2 : ((r.fst : Int) == (ns : Int)) = true := by rw [beq_iff_eq]; omega
      have HQ := hid hq
      have HWT := hid hwt
      clear hq hwt
      go_wp2_with (first
        | (go_at_call 27; refine hrp.mono ?_; rintro e w1 ⟨a1, n1, c1, rfl, G', hg1, hk1, -, htk⟩)
        | (go_at_call 22; refine htk.mono ?_; rintro e w2 ⟨rfl, hk2, F', hg2, h2⟩; have c2 : w2.cell? ⟨tb, 0, none⟩ = some (.int .i64 (r.fst : Int)) := h2.tl.cell (by simp); have hwa := L.wait h2.snd (h2.few HNS.out h50).2.1; rw [HWT.out] at hwa)
        | (go_at_call 24; refine hwa.mono ?_; rintro e w3 ⟨rfl, hk3, F3, hs3, hg3⟩))
      go_ret
      exact ⟨rfl, h2.bel.trans (hk3.below h2.bw h2.bf)⟩
end Go.Proofs.Ytdgdklmgnnhadaf
