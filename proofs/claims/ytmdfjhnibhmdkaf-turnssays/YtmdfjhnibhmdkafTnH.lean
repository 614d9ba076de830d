import Derived.Test.YtmdfjhnibhmdkafTnI
import Derived.Deep.CutRange
namespace Go.Proofs.Ytmdfjhnibhmdkaf
open Go.ChangeShapes Go.WideShapes Go.ChangeAt Go.RowKit

/-! THE DOCUMENT'S Slot: users that may be. -/

set_option maxRecDepth 100000 in
set_option maxHeartbeats 8000000 in
theorem rslot_good (l : List UsM) (blocks nl c r last : Nat) (opn : Bool) (cr : Nat → Int) (q : Int) (a : Option Addr) (w : World) (hb100 : blocks ≤ 100) (hU : Usr w a l) (hnl : l.length = nl) (hnil : a = none → nl = 0 ∧ c = 0) (hO : OkU l) (hT : TurnAt 30 w r q last opn cr) (hq1 : 1 ≤ q) (hq2 : q ≤ 10000) (hcr : ∀ a, 0 ≤ cr a) (hcb : CrB (slot0 l last opn cr)) (hla : last ≤ 16) (hop : opn = true → 1 ≤ last) :
    Calls Try.prog 7 #[.pointer (some ⟨r, 0, none⟩), .slice a nl c, .int .i64 (blocks : Int)] w fun e w' => ∃ go, e = .returned (.tuple #[.slice (some ⟨go, 0, none⟩) blocks blocks, .int .i64 0]) ∧ ArrAt .i64 3 w' go (fillO (slotM q (byF UsM.fit l) blocks (slot0 l last opn cr)).out blocks) ∧ TurnAt 30 w' r q (slotM q (byF UsM.fit l) blocks (slot0 l last opn cr)).last (slotM q (byF UsM.fit l) blocks (slot0 l last opn cr)).opn (slotM q (byF UsM.fit l) blocks (slot0 l last opn cr)).cr ∧ w.heap.size ≤ go ∧ Kept [r] w w' := by
  have HU := hid hU
  have HNL := hid hnl
  have HO := hid hO
  have h16 := okU_few hO
  rw [hnl] at h16
  have HT := hid hT
  have HNI := hid hnil
  have hrw := hT.lt
  have d0 : decide ((blocks : Int) < 0) = false := decide_eq_false (by omega)
  have d1 : decide ((100 : Int) < (blocks : Int)) = false := decide_eq_false (by omega)
  obtain ⟨s0, es0⟩ : ∃ s0, s0 = slot0 l last opn cr := ⟨_, rfl⟩
  have hs0 : s0.Ok blocks := by rw [es0]; exact ⟨hla, hop, hcr, fun a => (by
    show 0 ≤ byF UsM.byt l a
    by_cases hex : ∃ i, i < l.length ∧ (l.getD i .zero).who = (a : Int)
    · obtain ⟨i, hi, e⟩ := hex
      have hf := byF_at (f := UsM.byt) hO hi
      rw [e, Int.toNat_natCast] at hf
      rw [hf]
      exact (hO.at hi).2.1.1
    · rw [byF_none fun i hi e => hex ⟨i, hi, e⟩]
      omega), Nat.zero_le _⟩
  have HS0 := hid es0
  clear hU hnl hO hT hnil hla hop
  go_enter Try.func7, Try.ntmps7
  go_wp2_with fail
  go_loopw [8] (fun q wr => ∃ k : Nat, k ≤ nl ∧ q = .int .i64 k ∧ Below w.heap.size w wr) (fun q _ => nl - (intOf q).toNat)
  case atStart => exact ⟨0, by omega, rfl, Below.refl _ w⟩
  case round =>
    as_aux_lemma =>
      obtain ⟨k, hk, rfl, hb⟩ := hrel
      by_cases hlt : k < nl
      · have hkl : k < l.length := by rw [HNL.out]; exact hlt
        obtain ⟨b, o, rfl, hC⟩ := HU.out.at hkl
        obtain ⟨q0, q1, q2⟩ := hC k hkl
        have hko := of_decide_eq_true (HO.out k hkl)
        have q0 := cellT hb q0
        have q1 := cellT hb q1
        have q2 := cellT hb q2
        rcases Nat.eq_zero_or_pos k with hk0 | hk0
        · as_aux_lemma =>
            have xk : decide (0 < k) = false := decide_eq_false (by omega)
            generalize l.getD k .zero = u at *
            clear hC hkl hk0
            have x0 : decide (u.who < 1) = false := decide_eq_false (by omega)
            have x1 : decide (16 < u.who) = false := decide_eq_false (by omega)
            have x3 : decide (u.byt < 0) = false := decide_eq_false (by omega)
            have x4 : decide (1000000 < u.byt) = false := decide_eq_false (by omega)
            have x5 : decide (u.fit < 1) = false := decide_eq_false (by omega)
            have x6 : decide (10000 < u.fit) = false := decide_eq_false (by omega)
            clear hko
            go_upto_region 7 with fail
            go_region
            go_wp2_with fail
            go_roundw
            case rel => exact ⟨k + 1, by omega, by go_num, (hb.alloc hb.size _).drew⟩
            case measure => simp [intOf]; omega
        · as_aux_lemma =>
            obtain ⟨j, rfl⟩ : ∃ j, k = j + 1 := ⟨k - 1, by omega⟩
            obtain ⟨p0, -, -⟩ := hC j (by omega)
            have p0 := cellT hb p0
            have eb : befU l (j + 1) = (l.getD j .zero).who := by unfold befU; rw [if_neg (by omega), Nat.add_sub_cancel]
            rw [eb] at hko
            generalize l.getD (j + 1) .zero = u at *
            obtain ⟨V, eV⟩ : ∃ V, V = (l.getD j .zero).who := ⟨_, rfl⟩
            rw [← eV] at p0 hko
            have hj0 : (0 : Int) ≤ (j : Int) := by omega
            have hjn : (j : Int) < (nl : Int) := by omega
            have p0' := cellT2 p0 (.cells #[.int .i64 u.who, .int .i64 u.byt, .int .i64 u.fit] 41)
            clear hC hkl eb eV
            have x0 : decide (u.who < 1) = false := decide_eq_false (by omega)
            have x1 : decide (16 < u.who) = false := decide_eq_false (by omega)
            have x2 : decide (u.who ≤ V) = false := decide_eq_false (by omega)
            have x3 : decide (u.byt < 0) = false := decide_eq_false (by omega)
            have x4 : decide (1000000 < u.byt) = false := decide_eq_false (by omega)
            have x5 : decide (u.fit < 1) = false := decide_eq_false (by omega)
            have x6 : decide (10000 < u.fit) = false := decide_eq_false (by omega)
            clear hko
            go_upto_region 7 with fail
            go_region
            go_wp2_with fail
            go_roundw
            case rel => exact ⟨(j + 1) + 1, by omega, by go_num, (hb.alloc hb.size _).drew⟩
            case measure => simp [intOf]; omega
      · have e : k = nl := by omega
        subst e
        clear hlt hk
        go_wp2_with (first
          | (at_builtin; refine wpList_copyU w.heap.size (HU.out.below hb) HNL.out (by omega) HNI.out rfl _ _ rfl rfl rfl hb.size ?_; intro v1 w1 ho1 hg1; have hb1 : Below w.heap.size w w1 := hb.grown hg1 hb.size (by intro k hk; cases hk))
          | (at_make; refine wpList_makeInts w.heap.size w blocks rfl _ _ rfl _ _ rfl rfl rfl rfl (by omega) hb1 hb1.size ?_; intro w2 ho2 hb2 hlt2 hfr2))
        have hu2 := ho1.below hfr2
        have ha2 := ho2.arr.1
        obtain ⟨a1, c1, rfl, -, -⟩ := ho1.shape
        have hA : ApaT w w.heap.size r w1.heap.size (.slice a1 l.length c1) := ⟨hrw, hb1.size, fun e => by have := (ho1.lt _ e).2; omega, rfl⟩
        have hS0 : SlA 30 w w2 w.heap.size r w1.heap.size q (.slice a1 l.length c1) l blocks s0 := by
          rw [HS0.out]
          refine ⟨HT.out.below hb2, ?_, ?_, Kept.of_below hb2⟩
          · show OwnU w2 _ _ (curU l (byF UsM.byt l))
            rw [curU_start HO.out]
            exact hu2
          · show ArrAt .i64 3 w2 w1.heap.size (fillO [] blocks)
            have e : fillO [] blocks = List.replicate blocks 0 := by simp [fillO]
            rw [e]
            exact ha2
        rw [HNL.out] at hA hS0 ⊢
        clear hu2 ha2 ho1 ho2 hg1 hfr2 hlt2 hb hb2
        go_loopg [12] (s0.mu blocks) (fun gg x wr => ∃ s : SlM, x = .int .i64 (s.out.length : Nat) ∧ SlA 30 w wr w.heap.size r w1.heap.size q (.slice a1 k c1) l blocks s ∧ Hid (slotM q (byF UsM.fit l) blocks s0 = slotM q (byF UsM.fit l) blocks s ∧ Only l s.bw) ∧ s.Ok blocks ∧ Hid (CrU s) ∧ s.mu blocks ≤ gg)
        case atStart => exact ⟨s0, by rw [HS0.out]; rfl, hS0, ⟨rfl, by rw [HS0.out]; exact Only.start l⟩, hs0, (show Hid _ from by rw [HS0.out]; exact ⟨hcb, fun a => (byF_le HO.out a).2⟩), Nat.le_refl _⟩
        case round =>
          as_aux_lemma =>
            clear hS0
            obtain ⟨s, rfl, hS, HSL, hok, HCB, hgg⟩ := hrel
            by_cases hlt : s.out.length < blocks
            · go_wp2_with fail
              go_loopw [13, 14] (fun va i wq => ∃ m : Nat, m ≤ k ∧ i = .int .i64 m ∧ va = .bool (anyTo l s.bw m) ∧ wr = wq) (fun _ i _ => k - (intOf i).toNat)
              case atStart => exact ⟨0, by omega, rfl, rfl, rfl⟩
              case round =>
                as_aux_lemma =>
                  obtain ⟨m, hm, rfl, rfl, rfl⟩ := hrel
                  by_cases hmk : m < k
                  · have hml : m < l.length := by rw [HNL.out]; exact hmk
                    obtain ⟨gb, cc, e, -, -, hCU⟩ := hS.u.at (by rw [curU_length]; omega)
                    simp only [Value.slice.injEq] at e
                    obtain ⟨rfl, -, rfl⟩ := e
                    obtain ⟨⟨-, u1, -⟩, -⟩ := hCU m (by rw [curU_length]; exact hml)
                    rw [curU_at s.bw hml] at u1
                    have HSX := hid (anyTo_succ l s.bw m)
                    obtain ⟨z, ez⟩ : ∃ z, z = s.bw (l.getD m .zero).who.toNat := ⟨_, rfl⟩
                    rw [← ez] at HSX u1
                    have HS := hid hS
                    clear hCU ez hml hS
                    cases hq : anyTo l s.bw m with
                    | true =>
                      rw [hq] at HSX
                      go_wp2_with fail
                      go_roundw
                      case rel => exact ⟨m + 1, by omega, by go_num, by rw [HSX.out]; rfl, by first | rfl | trivial⟩
                      case measure => simp [intOf]; omega
                    | false =>
                      rw [hq] at HSX
                      cases hz : decide (0 < z) with
                      | true =>
                        rw [hz] at HSX
                        go_wp2_with fail
                        go_roundw
                        case rel => exact ⟨m + 1, by omega, by go_num, by rw [HSX.out]; rfl, by first | rfl | trivial⟩
                        case measure => simp [intOf]; omega
                      | false =>
                        rw [hz] at HSX
                        go_wp2_with fail
                        go_roundw
                        case rel => exact ⟨m + 1, by omega, by go_num, by rw [HSX.out]; rfl, by first | rfl | trivial⟩
                        case measure => simp [intOf]; omega
                  · have e : m = k := by omega
                    subst e
                    have hall : anyTo l s.bw m = anyB s.bw := by rw [← HNL.out]; exact anyTo_all HO.out HSL.out.2
                    rw [hall]
                    cases ha : anyB s.bw with
                    | false =>
                      have HX : Hid (slotM q (byF UsM.fit l) blocks (slot0 l last opn cr) = s) := by
                        show _ = _
                        rw [← HS0.out, HSL.out.1]
                        exact slot_stop (fun h => by rw [ha] at h; exact absurd h.2 (by decide))
                      clear ha hall hmk
                      go_wp2_with fail
                      go_ret2
                      exact ⟨w1.heap.size, rfl, by rw [HX.out]; exact hS.o, by rw [HX.out]; exact hS.t, hA.g1, hS.k⟩
                    | true =>
                      have hF := fitU HO.out HSL.out.2
                      have HVS : Hid (slotM q (byF UsM.fit l) blocks s0 = slotM q (byF UsM.fit l) blocks (visitM q (byF UsM.fit l) blocks s)) := by
                        show _ = _
                        rw [HSL.out.1]
                        exact slot_step hq1 hF hok ⟨hlt, ha⟩
                      have HMU := hid (visit_mu hq1 hF hok hlt ha)
                      have HVO := hid (visit_ok (q := q) (by omega) hF hok)
                      have HVC : Hid (CrU (visitM q (byF UsM.fit l) blocks s)) := ⟨HCB.out.1.visit ⟨by omega, hq2⟩ hok hF, fun a => Int.le_trans (visit_le hF a) (HCB.out.2 a)⟩
                      have HON := hid HSL.out.2
                      obtain ⟨c1l, c2l⟩ := come_last hok
                      obtain ⟨t0, t1, t2⟩ := hS.t.head
                      have f1 := hS.t.free 1
                      have f2 := hS.t.free 2
                      clear ha hall hmk HSL hF
                      go_upto_if 107 with fail
                      go_cut [15] from 81 to 271 (fun gx wx => gx = .bool (!s.opn) ∧ SlA 30 w wx w.heap.size r w1.heap.size q (.slice a1 m c1) l blocks s.came)
                      case first =>
                        as_aux_lemma =>
                          by_cases hop : s.opn = true
                          · have hSc := hS.as (came_open hop)
                            have HSC := hid hSc
                            have xo : (!s.opn) = false := by rw [hop]; rfl
                            rw [xo]
                            clear hS hSc
                            go_wp2_with fail
                            go_meet
                            case rel => exact ⟨by first | rfl | (rw [hop]; rfl) | simp [hop], HSC.out⟩
                          · have hof : s.opn = false := by simpa using hop
                            have xo : (!s.opn) = true := by rw [hof]; rfl
                            rw [xo]
                            rw [hof] at t2
                            clear hop
                            by_cases hl16 : s.last < 16
                            · have hcl : s.come.last = s.last + 1 := by
                                show (if s.opn = true then s.last else nextWho s.last) = s.last + 1
                                rw [if_neg (by rw [hof]; decide)]
                                exact if_neg (by omega)
                              have hS1 := hS.setT (s' := s.came) hA rfl rfl (by show TurnAt _ _ r q s.come.last s.opn s.cr; rw [hcl]; exact hS.t.setLast (s.last + 1))
                              rw [show ((s.last + 1 : Nat) : Int) = (s.last : Int) + 1 by omega] at hS1
                              have t1x := hS1.t.head.2.1
                              have t1' : (wr.setCell ⟨r, 1, none⟩ (.int .i64 ((s.last : Int) + 1))).cell? ⟨r, 1, none⟩ = some (.int .i64 ((s.last : Int) + 1)) := t1x.trans (by show some (Value.int .i64 (s.come.last : Int)) = _; rw [hcl]; rfl)
                              have x16 : decide ((16 : Int) < (s.last : Int) + 1) = false := decide_eq_false (by omega)
                              have HS1 := hid hS1
                              clear hS hS1 t1x hcl
                              go_wp2_with fail
                              go_meet
                              case rel => exact ⟨by first | rfl | (rw [hof]; rfl) | simp [hof], HS1.out⟩
                            · have hl : s.last = 16 := by have := hok.last; omega
                              have hcl : s.come.last = 1 := by
                                show (if s.opn = true then s.last else nextWho s.last) = 1
                                rw [if_neg (by rw [hof]; decide)]
                                exact if_pos (by omega)
                              rw [hl] at t1
                              have hS1 := hS.setT (s' := { s with last := 17 }) hA rfl rfl (hS.t.setLast 17)
                              have hS2 := hS1.setT (s' := s.came) hA rfl rfl (by show TurnAt _ _ r q s.come.last s.opn s.cr; rw [hcl]; exact hS1.t.setLast 1)
                              obtain ⟨-, t1', -⟩ := hS1.t.head
                              have f1' := hS1.t.free 1
                              have t1 : wr.cell? ⟨r, 1, none⟩ = some (.int .i64 16) := t1
                              have t1' : (wr.setCell ⟨r, 1, none⟩ (.int .i64 17)).cell? ⟨r, 1, none⟩ = some (.int .i64 17) := t1'
                              have f1' : (wr.setCell ⟨r, 1, none⟩ (.int .i64 17)).frozen? ⟨r, 1, none⟩ = false := f1'
                              have HS2 := hid hS2
                              clear hS hS1 hS2 hcl hl
                              go_wp2_with fail
                              go_meet
                              case rel => exact ⟨by first | rfl | (rw [hof]; rfl) | simp [hof], HS2.out⟩
                      case rest =>
                        as_aux_lemma =>
                          clear t0 t1 t2 f1 f2 hS
                          obtain ⟨rfl, hSw⟩ := hcut
                          have t2 := hSw.t.head.2.2
                          have f2 := hSw.t.free 2
                          have hSc : SlA 30 w (wc.setCell ⟨r, 2, none⟩ (.bool false)) w.heap.size r w1.heap.size q (.slice a1 m c1) l blocks s.come := hSw.setT hA rfl rfl (hSw.t.setOpn false)
                          clear hSw
                          go_wp2_with fail
                          go_loopw [16, 17] (fun va i wq => ∃ (mm : Nat) (ax : Int), mm ≤ m ∧ i = .int .i64 mm ∧ va = .int .i64 ax ∧ SlA 30 w wq w.heap.size r w1.heap.size q (.slice a1 m c1) l blocks s.come ∧ Hid ((ax = -1 ∧ ∀ j, j < mm → ¬ ((l.getD j .zero).who = (s.come.last : Int) ∧ 0 < s.bw s.come.last)) ∨ (∃ j : Nat, j < mm ∧ ax = (j : Int) ∧ (l.getD j .zero).who = (s.come.last : Int) ∧ 0 < s.bw s.come.last))) (fun _ i _ => m - (intOf i).toNat)
                          case atStart => exact ⟨0, -1, by omega, rfl, rfl, hSc, .inl ⟨rfl, fun j hj => absurd hj (Nat.not_lt_zero _)⟩⟩
                          case round =>
                            as_aux_lemma =>
                              clear hSc t2 f2
                              obtain ⟨mm, ax, hmm, rfl, rfl, hSc, HF⟩ := hrel
                              by_cases hml2 : mm < m
                              · have hml : mm < l.length := by rw [HNL.out]; exact hml2
                                obtain ⟨gb, cc, e, -, -, hCU⟩ := hSc.u.at (by rw [curU_length]; omega)
                                simp only [Value.slice.injEq] at e
                                obtain ⟨rfl, -, rfl⟩ := e
                                obtain ⟨⟨u0, u1, -⟩, -⟩ := hCU mm (by rw [curU_length]; exact hml)
                                rw [curU_at s.come.bw hml] at u0 u1
                                obtain ⟨-, t1, -⟩ := hSc.t.head
                                have hwb := (HO.out.at hml).1
                                have HSC := hid hSc
                                obtain ⟨A, eA⟩ : ∃ A, A = s.come.last := ⟨_, rfl⟩
                                rw [← eA] at t1 c1l c2l HF
                                have HAE := hid eA
                                obtain ⟨W, eW⟩ : ∃ W, W = (l.getD mm .zero).who := ⟨_, rfl⟩
                                rw [← eW] at u0 u1 hwb
                                have HWE := hid eW
                                clear hCU hSc eA eW
                                by_cases he : W = (A : Int)
                                · have hu1 : wr.cell? ⟨gb, mm * 3 + 1, none⟩ = some (.int .i64 (s.bw A)) := by
                                    rw [he, Int.toNat_natCast] at u1
                                    exact u1
                                  subst he
                                  clear u1
                                  by_cases hz : 0 < s.bw A
                                  · have xz : decide (0 < s.bw A) = true := decide_eq_true hz
                                    have HN : Hid (∃ j : Nat, j < mm + 1 ∧ (mm : Int) = (j : Int) ∧ (l.getD j .zero).who = (A : Int) ∧ 0 < s.bw A) := ⟨mm, by omega, rfl, HWE.out.symm, hz⟩
                                    clear hz
                                    go_upto_region 30 with fail
                                    go_region
                                    go_wp2_with fail
                                    go_roundw
                                    case rel => exact ⟨mm + 1, (mm : Int), by omega, by go_num, rfl, HSC.out.drew, .inr (by rw [← HAE.out]; exact HN.out)⟩
                                    case measure => simp [intOf]; omega
                                  · have xz : decide (0 < s.bw A) = false := decide_eq_false hz
                                    have HZ := hid hz
                                    clear hz
                                    go_upto_region 30 with fail
                                    go_region
                                    go_wp2_with fail
                                    go_roundw
                                    case rel => exact ⟨mm + 1, ax, by omega, by go_num, rfl, HSC.out.drew, by
                                      rw [← HAE.out]
                                      rcases HF.out with ⟨h1, h2⟩ | ⟨j, h1, h2, h3, h4⟩
                                      · exact .inl ⟨h1, fun j _ hh => HZ.out hh.2⟩
                                      · exact absurd h4 HZ.out⟩
                                    case measure => simp [intOf]; omega
                                · have xe : (W == (A : Int)) = false := beq_false_of_ne he
                                  have HE := hid he
                                  clear he
                                  go_upto_region 30 with fail
                                  go_region
                                  go_wp2_with fail
                                  go_roundw
                                  case rel => exact ⟨mm + 1, ax, by omega, by go_num, rfl, HSC.out.drew, by
                                    rw [← HAE.out]
                                    rcases HF.out with ⟨h1, h2⟩ | ⟨j, h1, h2, h3, h4⟩
                                    · refine .inl ⟨h1, fun j hj hh => ?_⟩
                                      by_cases ej : j = mm
                                      · exact HE.out (by rw [HWE.out, ← ej]; exact hh.1)
                                      · exact h2 j (by omega) hh
                                    · exact .inr ⟨j, by omega, h2, h3, h4⟩⟩
                                  case measure => simp [intOf]; omega
                              · have e : mm = m := by omega
                                subst e
                                clear hml2
                                rcases HF.out with ⟨h1, h2⟩ | ⟨j, h1, h2, h3, h4⟩
                                · have hbz : ¬ 0 < s.come.bw s.come.last := fun hp => by
                                    have hp' : 0 < s.bw s.come.last := hp
                                    refine absurd (HON.out s.come.last fun i hi e => ?_) (by omega)
                                    exact h2 i (by rw [← HNL.out]; exact hi) ⟨e, hp'⟩
                                  have hv : visitM q (byF UsM.fit l) blocks s = s.come.lose := if_neg hbz
                                  have hSl := hSc.setT (s' := s.come.lose) hA rfl rfl (hSc.t.setCr s.come.last 0)
                                  rw [← hv] at hSl
                                  have hvl : (visitM q (byF UsM.fit l) blocks s).out = s.out := by rw [hv]; rfl
                                  obtain ⟨-, t1, -⟩ := hSc.t.head
                                  have hcc := hSc.t.credit c2l
                                  have hcf := hSc.t.free (3 + s.come.last)
                                  have HSL := hid hSl
                                  have HVL := hid hvl
                                  subst h1
                                  generalize s.come.last = A at *
                                  generalize s.come.cr A = z at *
                                  have a0 : (0 : Int) ≤ (A : Int) := by omega
                                  have a1 : (A : Int) < 17 := by omega
                                  clear hbz hv hSl hvl h2 HF hSc
                                  go_upto_region 33 with fail
                                  go_region
                                  go_wp2_with fail
                                  go_roundg ((visitM q (byF UsM.fit l) blocks s).mu blocks)
                                  case measure => have := HMU.out; omega
                                  case rel => exact ⟨_, by rw [HVL.out], HSL.out.drew, ⟨HVS.out, HON.out.visit HVO.out⟩, HVO.out, HVC, Nat.le_refl _⟩
                                · subst h2
                                  have hjl : j < l.length := by rw [HNL.out]; exact h1
                                  have hfa : byF UsM.fit l s.come.last = (l.getD j .zero).fit := by
                                    have := byF_at (f := UsM.fit) HO.out hjl
                                    rw [h3, Int.toNat_natCast] at this
                                    exact this
                                  have hfb := (HO.out.at hjl).2.2
                                  have hv : visitM q (byF UsM.fit l) blocks s = (serveM (byF UsM.fit l) blocks (blocks + 1) (s.come.gain q (!s.opn))).leave := if_pos (show 0 < s.come.bw s.come.last from h4)
                                  have hgo := gain_ok (blocks := blocks) (q := q) (by omega) (!s.opn) (come_ok hok)
                                  have hcv : s.come.cr s.come.last < 20000 := HCB.out.1.le _
                                  have hc0 : 0 ≤ s.come.cr s.come.last := hok.cr s.come.last
                                  have hgc : (s.come.gain q (!s.opn)).cr s.come.last < 40000 := by
                                    unfold SlM.gain
                                    split
                                    · show upd s.come.cr s.come.last (s.come.cr s.come.last + q) s.come.last < 40000
                                      rw [upd_at]; omega
                                    · show s.come.cr s.come.last < 40000
                                      omega
                                  go_upto_if 161 with fail
                                  go_cut [15] from 81 to 271 (fun _ wx => SlA 30 w wx w.heap.size r w1.heap.size q (.slice a1 mm c1) l blocks (s.come.gain q (!s.opn)))
                                  case first =>
                                    as_aux_lemma =>
                                      by_cases hop : s.opn = true
                                      · have hg : s.come.gain q (!s.opn) = s.come := by unfold SlM.gain; rw [hop]; rfl
                                        have HSG := hid (hSc.as hg)
                                        have xo : (!s.opn) = false := by rw [hop]; rfl
                                        rw [xo]
                                        clear hSc hg hgc hgo hv
                                        go_wp2_with fail
                                        go_meet
                                        case rel => exact HSG.out
                                      · have hof : s.opn = false := by simpa using hop
                                        have xo : (!s.opn) = true := by rw [hof]; rfl
                                        have hg : s.come.gain q (!s.opn) = { s.come with cr := upd s.come.cr s.come.last (s.come.cr s.come.last + q) } := by unfold SlM.gain; rw [hof]; rfl
                                        have hSg := hSc.setT (s' := s.come.gain q (!s.opn)) hA (by rw [hg]) (by rw [hg]) (by rw [hg]; exact hSc.t.setCr s.come.last (s.come.cr s.come.last + q))
                                        obtain ⟨t0, t1, -⟩ := hSc.t.head
                                        have hcc := hSc.t.credit c2l
                                        have hcf := hSc.t.free (3 + s.come.last)
                                        have HSG := hid hSg
                                        rw [xo]
                                        clear hSc hg hSg hgc hgo hv h3 hfa hop h4
                                        generalize s.come.last = A at *
                                        generalize s.come.cr A = z at *
                                        have aa0 : (0 : Int) ≤ (A : Int) := by omega
                                        have aa1 : (A : Int) < 17 := by omega
                                        go_upto_region 35 with fail
                                        go_region
                                        go_wp2_with fail
                                        go_meet
                                        case rel => exact HSG.out.drew
                                  case rest =>
                                    as_aux_lemma =>
                                      have hSg := hcut
                                      clear hcut hSc hc0
                                      obtain ⟨A, eA⟩ : ∃ A, A = s.come.last := ⟨_, rfl⟩
                                      rw [← eA] at h3 hfa c1l c2l hcv
                                      have HH3 := hid h3
                                      have HFA := hid hfa
                                      have HJL := hid hjl
                                      obtain ⟨F, eF⟩ : ∃ F, F = (l.getD j .zero).fit := ⟨_, rfl⟩
                                      rw [← eF] at hfa hfb
                                      have HFE := hid eF
                                      have hjm : j < mm := h1
                                      clear h1 h3 h4 hfa hjl eF HF hcv
                                      go_wp2_with fail
                                      go_loopg [12] (blocks + 1) (fun gg x wq => ∃ (f : Nat) (s2 : SlM), x = .int .i64 (s2.out.length : Nat) ∧ SlA 30 w wq w.heap.size r w1.heap.size q (.slice a1 mm c1) l blocks s2 ∧ Hid (s2.last = A ∧ visitM q (byF UsM.fit l) blocks s = (serveM (byF UsM.fit l) blocks f s2).leave ∧ Only l s2.bw) ∧ s2.Ok blocks ∧ blocks < f + s2.out.length ∧ f ≤ gg ∧ s2.cr A < 40000 ∧ s2.bw A ≤ 1000000)
                                      case atStart => exact ⟨blocks + 1, s.come.gain q (!s.opn), by rw [hgo.2.2.2.1]; rfl, hSg, ⟨by rw [hgo.2.1, eA], hv, by rw [hgo.2.2.1]; exact HON.out⟩, hgo.1, by omega, Nat.le_refl _, by rw [eA]; exact hgc, by rw [eA, hgo.2.2.1]; exact HCB.out.2 _⟩
                                      case round =>
                                        as_aux_lemma =>
                                          clear hSg hgo hv hgc eA
                                          obtain ⟨f, s2, rfl, hS2, HV, hok2, hf2, hfg, hc2, hbm⟩ := hrel
                                          obtain ⟨hs2l, hvs, hon2⟩ := HV.out
                                          have hjl := HJL.out
                                          obtain ⟨gb, cc, e, hgb, -, hCU⟩ := hS2.u.at (by rw [curU_length]; omega)
                                          simp only [Value.slice.injEq] at e
                                          obtain ⟨rfl, -, rfl⟩ := e
                                          obtain ⟨⟨-, u1, u2⟩, uz⟩ := hCU j (by rw [curU_length]; exact hjl)
                                          rw [curU_at s2.bw hjl] at u1 u2
                                          rw [HH3.out, Int.toNat_natCast] at u1
                                          rw [← HFE.out] at u2
                                          obtain ⟨t0, t1, t2⟩ := hS2.t.head
                                          have hcc := hS2.t.credit (a := A) c2l
                                          have hcf := hS2.t.free (3 + A)
                                          have f2 := hS2.t.free 2
                                          rw [hs2l] at t1
                                          have hb0 := hok2.bw A
                                          have hy0 := hok2.cr A
                                          have hfF : byF UsM.fit l s2.last = F := by rw [hs2l, HFA.out, HFE.out]
                                          have ho2 := hok2.out
                                          have HS2L := hid hs2l
                                          have HON2 := hid hon2
                                          have HFF := hid hfF
                                          have HVS2 := hid hvs
                                          have HSS := hid hS2
                                          have aa0 : (0 : Int) ≤ (A : Int) := by omega
                                          have aa1 : (A : Int) < 17 := by omega
                                          have jj0 : (0 : Int) ≤ (j : Int) := by omega
                                          have jj1 : (j : Int) < (mm : Int) := by omega
                                          have HST : Hid (∀ hc : ¬ (0 < s2.bw A ∧ F ≤ s2.cr A), visitM q (byF UsM.fit l) blocks s = s2.leave) := fun hc => by
                                            rw [hvs, serve_stop (by rw [hfF, hs2l]; exact hc)]
                                          obtain ⟨f', rfl⟩ : ∃ f', f = f' + 1 := ⟨f - 1, by omega⟩
                                          have HFU : Hid (0 < s2.bw A ∧ F ≤ s2.cr A → s2.out.length = blocks → visitM q (byF UsM.fit l) blocks s = { s2 with opn := true }) := fun hc hl => by
                                            rw [hvs, serve_full (by rw [hfF, hs2l]; exact hc) hl]
                                            unfold SlM.leave
                                            rw [if_neg (show ¬ ({ s2 with opn := true } : SlM).bw ({ s2 with opn := true } : SlM).last = 0 by show ¬ s2.bw s2.last = 0; rw [hs2l]; omega)]
                                          have HGI : Hid (0 < s2.bw A ∧ F ≤ s2.cr A → s2.out.length ≠ blocks → visitM q (byF UsM.fit l) blocks s = (serveM (byF UsM.fit l) blocks f' (s2.give (byF UsM.fit l))).leave) := fun hc hl => by
                                            rw [hvs, serve_give (by rw [hfF, hs2l]; exact hc) hl]
                                          clear hCU hon2 hvs hS2 HV hfF hjl
                                          by_cases hz : 0 < s2.bw A
                                          · by_cases hy : F ≤ s2.cr A
                                            · by_cases hl : s2.out.length = blocks
                                              · as_aux_lemma =>
                                                  have hv := HFU.out ⟨hz, hy⟩ hl
                                                  have hSn := HSS.out.setT (s' := { s2 with opn := true }) hA rfl rfl (HSS.out.t.setOpn true)
                                                  rw [← hv] at hSn
                                                  have HSN := hid hSn
                                                  have hvl : (visitM q (byF UsM.fit l) blocks s).out = s2.out := by rw [hv]
                                                  have HVL := hid hvl
                                                  generalize s2.bw A = z at *
                                                  generalize s2.cr A = y at *
                                                  have x1 : decide (0 < z) = true := decide_eq_true hz
                                                  have x2 : decide (F ≤ y) = true := decide_eq_true hy
                                                  have xl : ((s2.out.length : Int) == (blocks : Int)) = true := by rw [beq_iff_eq]; omega
                                                  have xz : (z == 0) = false := beq_false_of_ne (by omega)
                                                  clear hv hSn hvl hz hy hl hs2l
                                                  go_upto_region 36 with fail
                                                  go_region
                                                  go_wp2_with fail
                                                  go_roundg ((visitM q (byF UsM.fit l) blocks s).mu blocks)
                                                  case measure => have := HMU.out; omega
                                                  case rel => exact ⟨_, by rw [HVL.out], HSN.out.drew, ⟨HVS.out, HON.out.visit HVO.out⟩, HVO.out, HVC, Nat.le_refl _⟩
                                              · have hol : s2.out.length < blocks := by omega
                                                have hfF := HFF.out
                                                have hgv : s2.give (byF UsM.fit l) = ⟨s2.last, s2.opn, upd s2.cr A (s2.cr A - F), upd s2.bw A (max (s2.bw A - F) 0), s2.out ++ [(A : Int)]⟩ := by
                                                  unfold SlM.give
                                                  rw [hfF, hs2l]
                                                have HV2 : Hid (visitM q (byF UsM.fit l) blocks s = (serveM (byF UsM.fit l) blocks f' (s2.give (byF UsM.fit l))).leave) := HGI.out ⟨hz, hy⟩ hl
                                                have HOK3 : Hid ((s2.give (byF UsM.fit l)).Ok blocks) := give_ok hok2 (by rw [hfF, hs2l]; exact hy) hol
                                                have HON3 : Hid (Only l (s2.give (byF UsM.fit l)).bw) := fun a ha => by
                                                  have h1 := HON2.out a ha
                                                  have h2 := HOK3.out.bw a
                                                  rcases Int.lt_or_le 0 ((s2.give (byF UsM.fit l)).bw a) with hp | hp
                                                  · have := give_less s2 (by rw [hs2l]; exact hz) a hp
                                                    omega
                                                  · omega
                                                have hS1 := HSS.out.setO hA hol (A : Int)
                                                have hS2 := hS1.setT (s' := ⟨s2.last, s2.opn, upd s2.cr A (s2.cr A - F), s2.bw, s2.out ++ [(A : Int)]⟩) hA rfl rfl (hS1.t.setCr A (s2.cr A - F))
                                                have hS3 := hS2.setU hA HO.out HJL.out (s2.bw A - F)
                                                have hS4 := hS3.setU hA HO.out HJL.out 0
                                                have ewho : (l.getD j .zero).who.toNat = A := by rw [HH3.out, Int.toNat_natCast]
                                                obtain ⟨oc, hoc⟩ : ∃ oc, wr.cell? ⟨w1.heap.size, s2.out.length, none⟩ = some (.int .i64 oc) := ⟨_, HSS.out.o.cell (by rw [fillO_length ho2]; exact hol)⟩
                                                have hof := HSS.out.o.free s2.out.length
                                                have p1x := hS1.t.head.2.1
                                                have p2x := hS1.t.credit (a := A) c2l
                                                have p3 := hS1.t.free (3 + A)
                                                obtain ⟨-, p4, -⟩ := hS1.cellU HJL.out
                                                obtain ⟨r1x, r2, r3⟩ := hS2.cellU HJL.out
                                                obtain ⟨v1x, -, v3⟩ := hS3.cellU HJL.out
                                                rw [← HFE.out] at p4 r2
                                                rw [ewho] at r1x v1x hS3 hS4
                                                have v1 := v1x.trans (show some (Value.int .i64 (upd s2.bw A (s2.bw A - F) A)) = some (.int .i64 (s2.bw A - F)) by rw [upd_at])
                                                have p1 : (wr.setCell ⟨w1.heap.size, s2.out.length, none⟩ (.int .i64 (A : Int))).cell? ⟨r, 1, none⟩ = some (.int .i64 (A : Int)) := by rw [← hs2l]; rw [← hs2l] at p1x; exact p1x
                                                have p2 : (wr.setCell ⟨w1.heap.size, s2.out.length, none⟩ (.int .i64 (A : Int))).cell? ⟨r, 3 + A, none⟩ = some (.int .i64 (s2.cr A)) := p2x
                                                have r1 : ((wr.setCell ⟨w1.heap.size, s2.out.length, none⟩ (.int .i64 (A : Int))).setCell ⟨r, 3 + A, none⟩ (.int .i64 (s2.cr A - F))).cell? ⟨gb, j * 3 + 1, none⟩ = some (.int .i64 (s2.bw A)) := r1x
                                                clear p1x p2x r1x v1x
                                                have HLN : Hid (((s2.out.length : Nat) : Int) + 1 = (((s2.give (byF UsM.fit l)).out.length : Nat) : Int)) := by
                                                  show _ = _
                                                  rw [hgv]
                                                  simp
                                                have HFL : Hid (blocks < f' + (s2.give (byF UsM.fit l)).out.length) := by
                                                  show _ < _
                                                  rw [hgv]
                                                  show blocks < f' + (s2.out ++ [(A : Int)]).length
                                                  simp
                                                  omega
                                                have HCN : Hid ((s2.give (byF UsM.fit l)).cr A < 40000 ∧ (s2.give (byF UsM.fit l)).bw A ≤ 1000000) := by
                                                  show _ ∧ _
                                                  rw [hgv]
                                                  show upd s2.cr A (s2.cr A - F) A < 40000 ∧ upd s2.bw A (max (s2.bw A - F) 0) A ≤ 1000000
                                                  rw [upd_at, upd_at]
                                                  omega
                                                have xl : ((s2.out.length : Int) == (blocks : Int)) = false := beq_false_of_ne (by omega)
                                                by_cases hlow : s2.bw A - F < 0
                                                · as_aux_lemma =>
                                                    have e0 : max (s2.bw A - F) 0 = 0 := by omega
                                                    rw [e0] at hgv
                                                    have HS4 := hid (hS4.as (s' := s2.give (byF UsM.fit l)) (hgv.trans (by show (⟨s2.last, s2.opn, upd s2.cr A (s2.cr A - F), upd s2.bw A 0, s2.out ++ [(A : Int)]⟩ : SlM) = ⟨s2.last, s2.opn, upd s2.cr A (s2.cr A - F), upd (upd s2.bw A (s2.bw A - F)) A 0, s2.out ++ [(A : Int)]⟩; rw [upd_upd])))
                                                    clear hS1 hS2 hS3 hS4 hgv e0 ewho hfF hl
                                                    generalize s2.bw A = z at *
                                                    generalize s2.cr A = y at *
                                                    have x1 : decide (0 < z) = true := decide_eq_true hz
                                                    have x2 : decide (F ≤ y) = true := decide_eq_true hy
                                                    have x3 : decide (z - F < 0) = true := decide_eq_true hlow
                                                    clear hz hy hlow hs2l
                                                    go_upto_region 36 with fail
                                                    go_region
                                                    go_upto_region 41 with fail
                                                    go_region
                                                    go_upto_region 42 with fail
                                                    go_region
                                                    go_wp2_with fail
                                                    go_roundg f'
                                                    case measure => omega
                                                    case rel => exact ⟨f', _, by rw [HLN.out], HS4.out.drew.drew.drew, ⟨HS2L.out, HV2.out, HON3.out⟩, HOK3.out, HFL.out, Nat.le_refl _, HCN.out⟩
                                                · as_aux_lemma =>
                                                    have e0 : max (s2.bw A - F) 0 = s2.bw A - F := by omega
                                                    rw [e0] at hgv
                                                    have HS3 := hid (hS3.as (s' := s2.give (byF UsM.fit l)) hgv)
                                                    clear hS1 hS2 hS3 hS4 hgv e0 ewho hfF hl
                                                    generalize s2.bw A = z at *
                                                    generalize s2.cr A = y at *
                                                    have x1 : decide (0 < z) = true := decide_eq_true hz
                                                    have x2 : decide (F ≤ y) = true := decide_eq_true hy
                                                    have x3 : decide (z - F < 0) = false := decide_eq_false hlow
                                                    clear hz hlow hs2l
                                                    go_upto_region 36 with fail
                                                    go_region
                                                    go_upto_region 41 with fail
                                                    go_region
                                                    go_upto_region 42 with fail
                                                    go_region
                                                    go_wp2_with fail
                                                    go_roundg f'
                                                    case measure => omega
                                                    case rel => exact ⟨f', _, by rw [HLN.out], HS3.out.drew.drew.drew, ⟨HS2L.out, HV2.out, HON3.out⟩, HOK3.out, HFL.out, Nat.le_refl _, HCN.out⟩
                                            · as_aux_lemma =>
                                                have hv := HST.out (fun h => hy h.2)
                                                have hlv : s2.leave = s2 := by unfold SlM.leave; rw [if_neg (by rw [hs2l]; omega)]
                                                rw [hlv] at hv
                                                have HSN : Hid (SlA 30 w wr w.heap.size r w1.heap.size q (.slice (some ⟨gb, 0, none⟩) mm c1) l blocks (visitM q (byF UsM.fit l) blocks s)) := by rw [hv]; exact HSS.out
                                                have HVL : Hid ((visitM q (byF UsM.fit l) blocks s).out = s2.out) := by rw [hv]; rfl
                                                generalize s2.bw A = z at *
                                                generalize s2.cr A = y at *
                                                have x1 : decide (0 < z) = true := decide_eq_true hz
                                                have x2 : decide (F ≤ y) = false := decide_eq_false hy
                                                have xz : (z == 0) = false := beq_false_of_ne (by omega)
                                                clear hv hlv hz hy hs2l
                                                go_upto_region 36 with fail
                                                go_region
                                                go_wp2_with fail
                                                go_roundg ((visitM q (byF UsM.fit l) blocks s).mu blocks)
                                                case measure => have := HMU.out; omega
                                                case rel => exact ⟨_, by rw [HVL.out], HSN.out.drew, ⟨HVS.out, HON.out.visit HVO.out⟩, HVO.out, HVC, Nat.le_refl _⟩
                                          · as_aux_lemma =>
                                              have hv := HST.out (fun h => hz h.1)
                                              have hlv : s2.leave = s2.lose := by unfold SlM.leave; rw [if_pos (by rw [hs2l]; omega)]
                                              rw [hlv] at hv
                                              have hSn := HSS.out.setT (s' := s2.lose) hA rfl rfl (HSS.out.t.setCr s2.last 0)
                                              rw [← hv, hs2l] at hSn
                                              have HSN := hid hSn
                                              have hvl : (visitM q (byF UsM.fit l) blocks s).out = s2.out := by rw [hv]; rfl
                                              have HVL := hid hvl
                                              have hz0 : s2.bw A = 0 := by omega
                                              rw [hz0] at u1
                                              generalize s2.cr A = y at *
                                              clear hv hlv hSn hvl hz hz0 hs2l hb0
                                              go_upto_region 36 with fail
                                              go_region
                                              go_upto_region 46 with fail
                                              go_region
                                              go_wp2_with fail
                                              go_roundg ((visitM q (byF UsM.fit l) blocks s).mu blocks)
                                              case measure => have := HMU.out; omega
                                              case rel => exact ⟨_, by rw [HVL.out], HSN.out.drew.drew, ⟨HVS.out, HON.out.visit HVO.out⟩, HVO.out, HVC, Nat.le_refl _⟩
            · have HX : Hid (slotM q (byF UsM.fit l) blocks (slot0 l last opn cr) = s) := by
                show _ = _
                rw [← HS0.out, HSL.out.1]
                exact slot_stop (fun h => hlt h.1)
              have hso := hok.out
              have hle : s.out.length = blocks := by omega
              have xlt : decide (s.out.length < blocks) = false := decide_eq_false hlt
              clear hlt hle
              go_wp2_with fail
              go_ret2
              exact ⟨w1.heap.size, rfl, by rw [HX.out]; exact hS.o, by rw [HX.out]; exact hS.t, hA.g1, hS.k⟩
end Go.Proofs.Ytmdfjhnibhmdkaf
