import Derived.Test.YtbjgfoiikhbonafK22
set_option linter.unusedVariables false
set_option linter.unusedSimpArgs false
namespace Go.Proofs.Ytbjgfoiikhbonaf
open Go.ChangeShapes Go.WideShapes Go.ChangeAt Go.RowKit
/-- What a report makes of a unit. -/
def TkR (told : Nat) (lk : Nat → Bool) (P : Nat → Nat → Prop) (i : Nat) (x x' : UnP) : Prop :=
  x'.text = x.text ∧ x'.sent = x.sent ∧ x'.dn = (x.dn || (decide (i < told) && !lk i)) ∧ Srt x'.al ∧ (x'.dn = true → x.dn = false → x'.al = []) ∧
  ∀ t, inS x'.al t ↔ (if i < told then (if lk i = true then inS x.al t ∨ (x.dn = false ∧ t < x.sent ∧ P i t) else False) else inS x.al t ∨ (x.dn = false ∧ t < x.sent))
def TakeRel (told : Nat) (lk : Nat → Bool) (P : Nat → Nat → Prop) (us us' : List UnP) : Prop := us'.length = us.length ∧ ∀ i, i < us.length → TkR told lk P i (us.getD i .zero) (us'.getD i .zero)
def TakePost (w : World) (b win bg : Nat) (ua : Option Addr) (c : Nat) (us : List UnP) (r : ReportM) : Ending → World → Prop := fun e w' => e = .returned (.int .i64 0) ∧ Kept (sndF b ua us) w w' ∧ ∃ us', TakeRel (aheadN r.next bg) (lkOf bg r.miss) (gapP bg r.miss) us us' ∧ NewU w.heap.size us us' ∧ PSnd w' b win ((bg + lead (·.dn) us') % 64) ua c (us'.drop (lead (·.dn) us'))
set_option maxRecDepth 100000 in
set_option maxHeartbeats 2000000 in
theorem stake_bad {w : World} {b win bg : Nat} {ua : Option Addr} {c : Nat} {us : List UnP} (r : ReportM) (a : Option Addr) (n cc : Nat) (h : PSnd w b win bg ua c us) (hbg : bg < 64) (hl : us.length ≤ 4000) (hok : UsOk us) (hG : Gps w a r.miss) (hn : r.miss.length = n) (hm : n ≤ maxLen) (he : repErr bg us r ≠ 0) :
    Calls Try.prog 22 #[.pointer (some ⟨b, 0, none⟩), .agg #[.int .i64 r.next, .slice a n cc]] w fun e w' => e = .returned (.int .i64 (repErr bg us r)) ∧ Below w.heap.size w w' := by
  have hA := at_alloc w 73 [.int .i64 r.next, .slice a n cc]
  have hk : Kept [] w (w.alloc (.cells #[.int .i64 r.next, .slice a n cc] 73)) := (Kept.refl _ w).alloc _
  have hcr := checkReport_any (w := w.alloc (.cells #[.int .i64 r.next, .slice a n cc] 73)) r a n cc (h.kept hk (by simp)) hbg hl hok.size (hG.kept hk (fun x _ => by simp)) hn hm
  have x0 : (w.alloc (.cells #[.int .i64 r.next, .slice a n cc] 73)).cell? ⟨w.heap.size, 0, none⟩ = some (.int .i64 r.next) := hA.cell 0
  have x1 : (w.alloc (.cells #[.int .i64 r.next, .slice a n cc] 73)).cell? ⟨w.heap.size, 1, none⟩ = some (.slice a n cc) := hA.cell 1
  have HB := hid (show Below w.heap.size w (w.alloc (.cells #[.int .i64 r.next, .slice a n cc] 73)) from (Below.refl _ w).alloc (Nat.le_refl _) _)
  have hsz : w.heap.size ≤ (w.alloc (.cells #[.int .i64 r.next, .slice a n cc] 73)).heap.size := by simp
  generalize repErr bg us r = E at *
  obtain ⟨next, miss⟩ := r
  dsimp only at *
  clear h hok hG hn hm hA hk
  go_enter Try.func22, Try.ntmps22
  go_wp2_with (go_at_call 47; refine hcr.mono ?_; rintro e w1 ⟨rfl, hb1⟩)
  go_ret
  exact ⟨rfl, HB.out.trans (hb1.mono hsz)⟩
theorem sndF_new {B b x : Nat} {ua : Option Addr} {us us' : List UnP} (h : NewU B us us') (hl : us'.length = us.length) (hx : x ∈ sndF b ua us') : x ∈ sndF b ua us ∨ B ≤ x := by
  rcases sndF_mem hx with rfl | ⟨y, hy, rfl⟩ | ⟨i, hi, e⟩
  · exact .inl (sndF_b _ _ _)
  · exact .inl (sndF_u hy)
  · rw [hl] at hi
    rcases h i hi x e with h1 | h1
    · exact .inl (sndF_a hi h1)
    · exact .inr h1
theorem keptRowNew (w : World) (o : Obj) (cs : Array Value) : Kept [] w ((w.alloc o).setRow w.heap.size cs) :=
  ⟨rfl, rfl, rfl, by simp [World.setRow], fun k hk _ => (setRow_other _ _ k cs (by omega)).trans (Below.heap_alloc w o k hk)⟩
/-- While the units are gone through. -/
structure TkI (B : Nat) (wr : World) (b win bg : Nat) (ua : Option Addr) (c A : Nat) (lk : Nat → Bool) (P : Nat → Nat → Prop) (us us1 us' : List UnP) (k : Nat) : Prop where
  snd : PSnd wr b win bg ua c us'
  len : us'.length = us1.length
  did : ∀ i, i < k → TkR A lk P i (us.getD i .zero) (us'.getD i .zero)
  not : ∀ i, k ≤ i → us'.getD i .zero = us1.getD i .zero
  new : NewU B us1 us'
theorem TkI.skip {B : Nat} {wr : World} {b win bg : Nat} {ua : Option Addr} {c A : Nat} {lk : Nat → Bool} {P : Nat → Nat → Prop} {us us1 us' : List UnP} {k : Nat} (h : TkI B wr b win bg ua c A lk P us us1 us' k) (hk : TkR A lk P k (us.getD k .zero) (us1.getD k .zero)) : TkI B wr b win bg ua c A lk P us us1 us' (k + 1) :=
  ⟨h.snd, h.len, fun i hi => by
    rcases Nat.lt_or_ge i k with h' | h'
    · exact h.did i h'
    · rw [show i = k by omega, h.not k (Nat.le_refl _)]; exact hk, fun i hi => h.not i (by omega), h.new⟩
theorem TkI.set {B : Nat} {wr w2 : World} {b win bg : Nat} {ua : Option Addr} {c A : Nat} {lk : Nat → Bool} {P : Nat → Nat → Prop} {us us1 us' : List UnP} {k : Nat} {x' : UnP} (h : TkI B wr b win bg ua c A lk P us us1 us' k) (hkn : k < us1.length) (hs : PSnd w2 b win bg ua c (us'.set k x')) (hk : TkR A lk P k (us.getD k .zero) x') (hB : B ≤ wr.heap.size) (hn : ∀ g, x'.av.ownBlock = some g → (us'.getD k .zero).av.ownBlock = some g ∨ wr.heap.size ≤ g) : TkI B w2 b win bg ua c A lk P us us1 (us'.set k x') (k + 1) :=
  ⟨hs, by rw [List.length_set]; exact h.len, fun i hi => by
    by_cases e : i = k
    · subst e; rw [getD_setS (by rw [h.len]; exact hkn)]; exact hk
    · rw [getD_setN (fun e' => e e'.symm)]; exact h.did i (by omega), fun i hi => by rw [getD_setN (by omega)]; exact h.not i (by omega), h.new.set h.len hB hkn hn⟩
set_option maxRecDepth 100000 in
set_option maxHeartbeats 2000000 in
theorem stake_good {w : World} {b win bg : Nat} {ua : Option Addr} {c : Nat} {us : List UnP} (r : ReportM) (a : Option Addr) (n cc : Nat) (h : PSnd w b win bg ua c us) (hbg : bg < 64) (hl : us.length ≤ 4000) (hok : UsOk us) (hG : Gps w a r.miss) (hNI : r.miss ≠ [] → NotIn (sndF b ua us) a) (hn : r.miss.length = n) (hm : n ≤ maxLen) (he : repErr bg us r = 0) (h32 : aheadN r.next bg ≤ 32) :
    Calls Try.prog 22 #[.pointer (some ⟨b, 0, none⟩), .agg #[.int .i64 r.next, .slice a n cc]] w (TakePost w b win bg ua c us r) := by
  have hA := at_alloc w 73 [.int .i64 r.next, .slice a n cc]
  have hk : Kept [] w (w.alloc (.cells #[.int .i64 r.next, .slice a n cc] 73)) := (Kept.refl _ w).alloc _
  have hcr := checkReport_any (w := w.alloc (.cells #[.int .i64 r.next, .slice a n cc] 73)) r a n cc (h.kept hk (by simp)) hbg hl hok.size (hG.kept hk (fun x _ => by simp)) hn hm
  rw [he] at hcr
  have hpart : (0 ≤ r.next ∧ r.next ≤ 63) ∧ aheadN r.next bg ≤ lead sentP us ∧ r.miss.all (gapOkP bg (aheadN r.next bg) us) = true := by
    unfold repErr at he
    split at he
    · simp at he
    · split at he
      · simp at he
      · split at he
        · rename_i q1 q2 q3
          exact ⟨by omega, by omega, q3⟩
        · simp at he
  obtain ⟨hnx, hle, hall⟩ := hpart
  have hdl : aheadN r.next bg ≤ us.length := Nat.le_trans hle (lead_le _ _)
  have hsz0 : (w.alloc (.cells #[.int .i64 r.next, .slice a n cc] 73)).heap.size = w.heap.size + 1 := World.size_alloc _ _
  have hF : ∀ w1, Below (w.alloc (.cells #[.int .i64 r.next, .slice a n cc] 73)).heap.size (w.alloc (.cells #[.int .i64 r.next, .slice a n cc] 73)) w1 → w1.cell? ⟨w.heap.size, 0, none⟩ = some (.int .i64 r.next) ∧ w1.cell? ⟨w.heap.size, 1, none⟩ = some (.slice a n cc) ∧ Kept [] w w1 ∧ w.heap.size < w1.heap.size ∧ Calls Try.prog 48 #[.pointer (some ⟨b, 0, none⟩), .slice a n cc] w1 (LGPost w1 b win bg ua c us r.miss) := fun w1 hb1 => by
    have hk1 : Kept [] w w1 := hk.trans (Kept.of_below hb1)
    exact ⟨(World.cell?_of_block (hb1.block w.heap.size (by omega))).trans (hA.cell 0), (World.cell?_of_block (hb1.block w.heap.size (by omega))).trans (hA.cell 1), hk1, by have := hb1.size; omega, loseGaps_any r.miss a n cc (h.kept hk1 (by simp)) hbg h32 hdl hok hall (hG.kept hk1 (fun x _ => by simp)) hNI hn hm⟩
  have hst : ∀ W : World, (storeCells ⟨W.heap.size, 0, none⟩ (lkC bg r.miss) 0).run Try.prog (W.alloc (.cells #[.bool false, .bool false, .bool false, .bool false, .bool false, .bool false, .bool false, .bool false, .bool false, .bool false, .bool false, .bool false, .bool false, .bool false, .bool false, .bool false, .bool false, .bool false, .bool false, .bool false, .bool false, .bool false, .bool false, .bool false, .bool false, .bool false, .bool false, .bool false, .bool false, .bool false, .bool false, .bool false] 131)) = .ok () ((W.alloc (.cells #[.bool false, .bool false, .bool false, .bool false, .bool false, .bool false, .bool false, .bool false, .bool false, .bool false, .bool false, .bool false, .bool false, .bool false, .bool false, .bool false, .bool false, .bool false, .bool false, .bool false, .bool false, .bool false, .bool false, .bool false, .bool false, .bool false, .bool false, .bool false, .bool false, .bool false, .bool false, .bool false] 131)).setRow W.heap.size (lkC bg r.miss).toArray) := fun W => by
    have := run_storeCells_at Try.prog W.heap.size 0 131 (lkC bg r.miss) 0 #[.bool false, .bool false, .bool false, .bool false, .bool false, .bool false, .bool false, .bool false, .bool false, .bool false, .bool false, .bool false, .bool false, .bool false, .bool false, .bool false, .bool false, .bool false, .bool false, .bool false, .bool false, .bool false, .bool false, .bool false, .bool false, .bool false, .bool false, .bool false, .bool false, .bool false, .bool false, .bool false] (W.alloc (.cells #[.bool false, .bool false, .bool false, .bool false, .bool false, .bool false, .bool false, .bool false, .bool false, .bool false, .bool false, .bool false, .bool false, .bool false, .bool false, .bool false, .bool false, .bool false, .bool false, .bool false, .bool false, .bool false, .bool false, .bool false, .bool false, .bool false, .bool false, .bool false, .bool false, .bool false, .bool false, .bool false] 131)) (heap_alloc_new W _) (by simp [lkC_len]) (by
      intro v hv
      simp only [lkC, List.mem_map] at hv
      obtain ⟨i, -, rfl⟩ := hv
      rfl)
    rw [this]
    simp [lkC_len]
  have HF := hid hF
  have HST := hid hst
  have HOK := hid hok
  have hah := fun W => ahead_at (k := r.next) (bg := bg) W hbg hnx.1 hnx.2
  have x0 : (w.alloc (.cells #[.int .i64 r.next, .slice a n cc] 73)).cell? ⟨w.heap.size, 0, none⟩ = some (.int .i64 r.next) := hA.cell 0
  have x1 : (w.alloc (.cells #[.int .i64 r.next, .slice a n cc] 73)).cell? ⟨w.heap.size, 1, none⟩ = some (.slice a n cc) := hA.cell 1
  have H := hid h
  obtain ⟨next, miss⟩ := r
  dsimp only at *
  clear hF hst h hG hn hm hA hk hNI he hall
  generalize hLK : lkC bg miss = LK at *
  have hLl : LK.length = 32 := by rw [← hLK]; exact lkC_len _ _
  have HLK := hid hLK
  clear hLK
  go_enter Try.func22, Try.ntmps22
  have hst := HST.out
  go_upto_region 5 with (first
    | (go_at_call 47; refine hcr.mono ?_; rintro e w1 ⟨rfl, hb1⟩; obtain ⟨y0, y1, hk1, hs1, hlg⟩ := HF.out _ hb1)
    | (go_at_call 48; refine hlg.mono ?_; rintro e w2 ⟨rfl, hk2, us1, hP1, hL1, hN1⟩; rw [HLK.out]))
  have f1 : Kept [] w2 ((w2.alloc (.cells #[.bool false, .bool false, .bool false, .bool false, .bool false, .bool false, .bool false, .bool false, .bool false, .bool false, .bool false, .bool false, .bool false, .bool false, .bool false, .bool false, .bool false, .bool false, .bool false, .bool false, .bool false, .bool false, .bool false, .bool false, .bool false, .bool false, .bool false, .bool false, .bool false, .bool false, .bool false, .bool false] 131)).setRow w2.heap.size LK.toArray) := keptRowNew _ _ _
  have f2 : At ((w2.alloc (.cells #[.bool false, .bool false, .bool false, .bool false, .bool false, .bool false, .bool false, .bool false, .bool false, .bool false, .bool false, .bool false, .bool false, .bool false, .bool false, .bool false, .bool false, .bool false, .bool false, .bool false, .bool false, .bool false, .bool false, .bool false, .bool false, .bool false, .bool false, .bool false, .bool false, .bool false, .bool false, .bool false] 131)).setRow w2.heap.size LK.toArray) w2.heap.size 131 LK := setRow_heap _ _ _ _ _ _ (heap_alloc_new w2 _)
  generalize ((w2.alloc (.cells #[.bool false, .bool false, .bool false, .bool false, .bool false, .bool false, .bool false, .bool false, .bool false, .bool false, .bool false, .bool false, .bool false, .bool false, .bool false, .bool false, .bool false, .bool false, .bool false, .bool false, .bool false, .bool false, .bool false, .bool false, .bool false, .bool false, .bool false, .bool false, .bool false, .bool false, .bool false, .bool false] 131)).setRow w2.heap.size LK.toArray) = W3 at *
  have hwF : w.heap.size ∉ sndF b ua us := fun hx => by have := H.out.lt _ hx; omega
  have yy0 := keptCellQ f1 (keptCellQ hk2 y0 hwF) (by simp)
  have hPW : PSnd W3 b win bg ua c us1 := hP1.kept f1 (by simp)
  obtain ⟨-, c1, c2⟩ := hPW.head
  have hlen1 : us1.length = us.length := hL1.1
  have hok1 := hL1.ok HOK.out
  have HOK1 := hid hok1
  have HL1 := hid hL1
  have HN1 := hid hN1
  have HPW := hid hPW
  have HF1 := hid f1
  have HF2 := hid f2
  have HK1 := hid hk1
  have HK2 := hid hk2
  have hlt1 : ∀ x ∈ sndF b ua us1, x < w2.heap.size := hP1.lt
  have HLT := hid hlt1
  have hs2 : w1.heap.size ≤ w2.heap.size := hk2.size
  have hsz3 : w2.heap.size < W3.heap.size := f2.lt
  have hlkc : ∀ i, i < 32 → LK[i]? = some (.bool (lkOf bg miss i)) := fun i hi => by rw [← HLK.out]; exact lkC_at _ _ hi
  have HLC := hid hlkc
  obtain ⟨N, hN⟩ : ∃ N, N = us1.length := ⟨_, rfl⟩
  rw [← hN] at c2 hlen1
  have HNN := hid hN
  clear hP1 hL1 hN1 hPW f1 f2 hk1 hk2 hok1 hlt1 hlkc hN y0 y1 x0 x1 hst hb1 hlg hcr
  go_quiet (first | (go_at_call 40; exact Calls.quiet_of_same (hah _)))
  generalize hAe : aheadN next bg = A at *
  have HAE := hid hAe
  clear hAe
  go_wp2_with fail
  go_loopw [32] (fun vi wr => ∃ k : Nat, k ≤ N ∧ vi = .int .i64 k ∧ ∃ us', TkI (w2.heap.size + 1) wr b win bg ua c A (lkOf bg miss) (gapP bg miss) us us1 us' k ∧ Kept (sndF b ua us1) W3 wr) (fun vi _ => N - (intOf vi).toNat)
  case atStart => exact ⟨0, by omega, rfl, us1, ⟨HPW.out.kept ((Kept.refl [] _).drewN _) (by simp), rfl, fun i hi => by omega, fun i _ => rfl, NewU.refl _ _⟩, (Kept.refl _ _).drewN _⟩
  case round =>
    obtain ⟨k, hk, rfl, us', hT, hKr⟩ := hrel
    obtain ⟨-, d1, d2⟩ := hT.snd.head
    rw [hT.len, ← HNN.out] at d2
    have hLB : w2.heap.size ∉ sndF b ua us1 := fun hx => by have := HLT.out _ hx; omega
    have hAr := HF2.out.kept hKr hLB
    have hszr : w2.heap.size + 1 ≤ wr.heap.size := Nat.le_trans hsz3 hKr.size
    by_cases hkn : k < N
    · have hk1' : k < us1.length := by rw [← HNN.out]; exact hkn
      have hk0 : k < us.length := by omega
      obtain ⟨ug, hua, hugb, hun⟩ := hT.snd.un (i := k) (by rw [hT.len]; exact hk1')
      rw [hT.not k (Nat.le_refl _)] at hun
      obtain ⟨m1, m2, m3, m4, m5⟩ := HL1.out.2 k hk0
      have hsz := HOK1.out.size k hk1'
      have hsn := HOK1.out.sent k hk1'
      have hin := HOK1.out.inn k hk1'
      subst hua
      have u0 := hun.c0
      have HT := hid hT
      have HKR := hid hKr
      have HUN := hid hun
      have HM := hid m5
      have HM4 := hid m4
      clear hT hKr hun m5 m4
      by_cases hA : A ≤ k
      · have hge : decide ((A : Int) ≤ (k : Int)) = true := decide_eq_true (by omega)
        have hlo := lose_any (a := 0) (z := (us1.getD k .zero).text.size) HUN.out HM4.out (endLe_of HM4.out fun t ht => by have := hin t ht; omega) (by omega) (by omega) (by omega)
        have hend : ∀ w4, LosePost wr ug (k * 4) (us1.getD k .zero) 0 (us1.getD k .zero).text.size (.returned (.tuple #[])) w4 → ∃ us'', TkI (w2.heap.size + 1) w4 b win bg (some ⟨ug, 0, none⟩) c A (lkOf bg miss) (gapP bg miss) us us1 us'' (k + 1) ∧ Kept (sndF b (some ⟨ug, 0, none⟩) us1) W3 w4 := fun w4 hlp => by
          obtain ⟨-, v', l', p1, p2, p3, p4, p5⟩ := hlp
          have hnk := HT.out.not k (Nat.le_refl _)
          refine ⟨us'.set k { us1.getD k .zero with av := v', al := l' }, HT.out.set hk1' ?_ ?_ hszr (by rw [hnk]; exact p5), ?_⟩
          · refine HT.out.snd.upd (by rw [HT.out.len]; exact hk1') (f := 2) (by omega) p1 (fun s hs => by rw [hnk]; simpa using hs) (by rw [hnk]; rfl) p2 (by rw [hnk]; exact p5)
          · refine ⟨m1, m2, ?_, p3, fun h1 h2 => ?_, fun t => ?_⟩
            · show (us1.getD k .zero).dn = _
              rw [m3, decide_eq_false (by omega : ¬ k < A)]
              simp
            · have h1' : (us1.getD k .zero).dn = true := h1
              rw [m3, h2] at h1'
              cases h1'
            · show inS l' t ↔ _
              rw [p4 t, HM.out t, if_neg (by omega), m2, m3]
              have := hsn
              rw [m2] at this
              constructor
              · rintro ((h1 | h1) | h1)
                · exact .inl h1
                · exact .inr ⟨h1.1, h1.2.1⟩
                · exact .inr ⟨h1.1, by omega⟩
              · rintro (h1 | h1)
                · exact .inl (.inl h1)
                · exact .inr ⟨h1.1, by omega, by omega⟩
          · refine HKR.out.trans (p1.kept.wider fun s hs => ?_)
            rw [List.mem_cons] at hs
            rcases hs with rfl | hs
            · exact sndF_u (y := ⟨s, 0, none⟩) rfl
            · exact sndF_a hk1' (by simpa using hs)
        have HEN := hid hend
        clear hend m1 m2 m3 hin hsn
        generalize (us1.getD k .zero).text = tx at *
        go_wp2_with (go_at_call 49; refine hlo.mono ?_; intro e w4 hlp; obtain rfl := hlp.1; obtain ⟨us'', r1, r2⟩ := HEN.out _ hlp; have R1 := hid r1; have R2 := hid r2; clear r1 r2 hlp)
        exact ⟨⟨k + 1, by omega, by go_num, us'', R1.out, R2.out⟩, by simp [intOf]; omega⟩
      · have hge : decide ((A : Int) ≤ (k : Int)) = false := decide_eq_false (by omega)
        have hk32 : k < 32 := by omega
        have ck : wr.cell? ⟨w2.heap.size, k, none⟩ = some (.bool (lkOf bg miss k)) := by rw [hAr.cell]; exact HLC.out k hk32
        cases hlk : lkOf bg miss k with
        | true =>
          rw [hlk] at ck
          have HR : Hid (TkR A (lkOf bg miss) (gapP bg miss) k (us.getD k .zero) (us1.getD k .zero)) := by
            refine ⟨m1, m2, ?_, HM4.out, fun h1 h2 => ?_, fun t => ?_⟩
            · rw [m3, hlk]; simp
            · rw [m3, h2] at h1; cases h1
            · rw [HM.out t, if_pos (by omega), if_pos hlk]
          clear m1 m2 m3 hin hsn hlk hAr
          go_wp2_with fail
          exact ⟨⟨k + 1, by omega, by go_num, us', HT.out.skip HR.out, HKR.out⟩, by simp [intOf]; omega⟩
        | false =>
          rw [hlk] at ck
          have hfi := finish_any HUN.out
          have HR : Hid (TkR A (lkOf bg miss) (gapP bg miss) k (us.getD k .zero) ⟨(us1.getD k .zero).text, (us1.getD k .zero).sent, .slice none 0 0, [], true⟩) := by
            refine ⟨m1, m2, ?_, Srt.nil, fun _ _ => rfl, fun t => ?_⟩
            · show true = _
              rw [hlk, decide_eq_true (by omega : k < A)]
              simp
            · rw [if_pos (by omega), if_neg (by rw [hlk]; simp)]
              exact ⟨fun h => inS_nil t h, fun h => h.elim⟩
          have hend : TkI (w2.heap.size + 1) ((wr.setCell ⟨ug, k * 4 + 3, none⟩ (.bool true)).setCell ⟨ug, k * 4 + 2, none⟩ (.slice none 0 0)) b win bg (some ⟨ug, 0, none⟩) c A (lkOf bg miss) (gapP bg miss) us us1 (us'.set k ⟨(us1.getD k .zero).text, (us1.getD k .zero).sent, .slice none 0 0, [], true⟩) (k + 1) ∧ Kept (sndF b (some ⟨ug, 0, none⟩) us1) W3 ((wr.setCell ⟨ug, k * 4 + 3, none⟩ (.bool true)).setCell ⟨ug, k * 4 + 2, none⟩ (.slice none 0 0)) := by
            have hnk := HT.out.not k (Nat.le_refl _)
            have hkl : k < us'.length := by rw [HT.out.len]; exact hk1'
            have q1 : PSnd (wr.setCell ⟨ug, k * 4 + 3, none⟩ (.bool true)) b win bg (some ⟨ug, 0, none⟩) c (us'.set k { us1.getD k .zero with dn := true }) := HT.out.snd.upd hkl (f := 3) (by omega) (PtrPost.store (Kept.refl [] wr) (by simp)) (by simp) (by rw [hnk]; rfl) (HUN.out.ag.kept (kept_setCell _ _ _ _) (fun g' hg' => by simpa using HUN.out.sep g' hg')) (fun g' hg' => .inl (by rw [hnk]; exact hg'))
            have q2 : PSnd ((wr.setCell ⟨ug, k * 4 + 3, none⟩ (.bool true)).setCell ⟨ug, k * 4 + 2, none⟩ (.slice none 0 0)) b win bg (some ⟨ug, 0, none⟩) c ((us'.set k { us1.getD k .zero with dn := true }).set k ⟨(us1.getD k .zero).text, (us1.getD k .zero).sent, .slice none 0 0, [], true⟩) := q1.upd (by rw [List.length_set]; exact hkl) (f := 2) (by omega) (PtrPost.store (Kept.refl [] _) (by simp)) (by simp) (by rw [getD_setS hkl]; rfl) (OwnSp.nil _) (fun g' hg' => by simp [Value.ownBlock] at hg')
            rw [List.set_set] at q2
            refine ⟨HT.out.set hk1' q2 HR.out hszr (fun g' hg' => by simp [Value.ownBlock] at hg'), ?_⟩
            have hm : ug ∈ sndF b (some ⟨ug, 0, none⟩) us1 := sndF_u (y := ⟨ug, 0, none⟩) rfl
            exact Kept.setCell (p := ⟨ug, k * 4 + 2, none⟩) (Kept.setCell (p := ⟨ug, k * 4 + 3, none⟩) HKR.out hm _) hm _
          have HEN := hid hend
          clear m1 m2 m3 hin hsn hlk hAr hend
          go_wp2_with (go_at_call 50; refine hfi.mono ?_; rintro e w4 ⟨rfl, hw4⟩; rw [hw4])
          exact ⟨⟨k + 1, by omega, by go_num, _, HEN.out.1, HEN.out.2⟩, by simp [intOf]; omega⟩
    · have hgo := goOn_any hT.snd (by rw [hT.len, ← HNN.out]; omega) hbg
      have HT := hid hT
      have HKR := hid hKr
      clear hT hKr hAr
      go_wp2_with (go_at_call 51; refine hgo.mono ?_; rintro e w4 ⟨rfl, g1, g2⟩; have G1 := hid g1; have G2 := hid g2; clear g1 g2)
      go_ret
      have hkN : k = N := by omega
      refine ⟨rfl, ?_, us', ⟨by rw [HT.out.len, ← HNN.out]; exact hlen1, fun i hi => ?_⟩, fun i hi g hg => ?_, G2.out⟩
      · have s1 : Kept (sndF b ua us) w w2 := keptChain (HK1.out.wider (by simp)) HK2.out (fun x hx => .inl hx)
        have s2 : Kept (sndF b ua us) w wr := keptChain (s1.trans (HF1.out.wider (by simp))) HKR.out (fun x hx => by
          rcases sndF_new HN1.out HL1.out.1 hx with h1 | h1
          · exact .inl h1
          · exact .inr (by omega))
        refine keptChain s2 G1.out (fun x hx => ?_)
        rcases sndF_new HT.out.new HT.out.len hx with h1 | h1
        · rcases sndF_new HN1.out HL1.out.1 h1 with h2 | h2
          · exact .inl h2
          · exact .inr (by omega)
        · exact .inr (by omega)
      · rw [HAE.out]
        exact HT.out.did i (by omega)
      · rcases HT.out.new i (by rw [← HNN.out]; omega) g hg with h1 | h1
        · rcases HN1.out i hi g h1 with h2 | h2
          · exact .inl h2
          · exact .inr (by omega)
        · exact .inr (by omega)
end Go.Proofs.Ytbjgfoiikhbonaf
