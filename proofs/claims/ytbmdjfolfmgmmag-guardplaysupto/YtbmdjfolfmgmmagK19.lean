import Derived.Test.YtbmdjfolfmgmmagK18
import Derived.BigRegion
namespace Go.Proofs.Ytbmdjfolfmgmmag
open Go.ChangeShapes Go.WideShapes Go.ChangeAt Go.RowKit
theorem below_drewNG {w wr : World} (h : Below w.heap.size w wr) (n : Nat) : Below w.heap.size w (wr.drewN n) := below_keptG h ((Kept.refl [] wr).drewN n) (by simp)
def RtPost (w : World) (g : Nat) (vc vd : Value) (cs : List Nat) (dd : List ByteArray) (m : GcM) (ks : List Nat) : Ending → World → Prop := fun e w' => ∃ v, e = .returned v ∧ w'.ownsRow w.heap.size 9 1 v ks.length ((textsG m.M ks).map Value.string) ∧ Kept [g] w w' ∧ PGt w' g vc vd cs dd (m.cutTo (endG m.fst ks))
theorem PGt.first {w : World} {g : Nat} {vc vd : Value} {cs : List Nat} {dd : List ByteArray} {m : GcM} {F e : Nat} (h : PGt w g vc vd cs dd (m.cutTo F)) (hF : F ≤ e) (he : e ≤ 16777216) (hok : m.Ok) : PGt (w.setCell ⟨g, 1, none⟩ (.int .i64 (e : Int))) g vc vd cs dd (m.cutTo e) := by
  have hk : Kept [g] w (w.setCell ⟨g, 1, none⟩ (.int .i64 (e : Int))) := (Kept.refl _ w).setCell (by simp) _
  refine ⟨h.hd.setCellG 1 _, row_kept h.rowc hk (fun x hx q => h.nec (by rw [List.mem_singleton] at q; rw [← q]; exact hx)), row_kept h.rowd hk (fun x hx q => h.ned (by rw [List.mem_singleton] at q; rw [← q]; exact hx)), h.len, h.nec, h.ned, h.nc, fun k hk x => ?_, h.top, hok.cutTo he⟩
  have hk' : e ≤ k := hk
  have h1 := h.look k (show F ≤ k by omega) x
  have e1 : (m.cutTo e).M k = (m.cutTo F).M k := by
    show cutM m.M e k = cutM m.M F k
    unfold cutM
    rw [if_neg (by omega), if_neg (by omega)]
  rw [e1]
  exact h1
theorem least_cases {w : World} {g : Nat} {vc vd : Value} {cs : List Nat} {dd : List ByteArray} {m : GcM} {F : Nat} {b : Bool} {rs : List Nat} {q : Int} (h : PGt w g vc vd cs dd (m.cutTo F)) (hst : StepsG m.M b F rs) (hL : LeastI cs F cs.length q) :
    (rs = [] ∧ (q = -1 ∨ ∃ p : Nat, q = (p : Int) ∧ p < cs.length ∧ b = false ∧ cAt cs p ≠ F)) ∨ ∃ (k : Nat) (rs' : List Nat) (p : Nat), rs = k :: rs' ∧ q = (p : Int) ∧ p < cs.length ∧ cAt cs p = k ∧ m.M k = some (dAt dd p) ∧ (b = false → k = F) ∧ StepsG m.M b (k + 1) rs' := by
  have hM : ∀ k, F ≤ k → (m.cutTo F).M k = m.M k := fun k hk => if_neg (by omega)
  have hlk : ∀ i, i < cs.length → F ≤ cAt cs i → m.M (cAt cs i) = some (dAt dd i) := fun i hi hF => by
    rw [← hM _ hF]
    exact (h.look _ hF _).2 ⟨i, hi, rfl, rfl⟩
  cases rs with
  | nil =>
    refine .inl ⟨rfl, ?_⟩
    rcases hL with ⟨rfl, _⟩ | ⟨p, rfl, hp, hpF, _⟩
    · exact .inl rfl
    · refine .inr ⟨p, rfl, hp, ?_⟩
      have h1 := hlk p hp hpF
      cases b with
      | true =>
        have h2 : ∀ k, F ≤ k → m.M k = none := hst
        rw [h2 _ hpF] at h1
        cases h1
      | false =>
        refine ⟨rfl, fun e => ?_⟩
        have h2 : m.M F = none := hst
        rw [e, h2] at h1
        cases h1
  | cons k rs' =>
    obtain ⟨h1, h2, h3, h4, h5⟩ := hst
    obtain ⟨x, hx⟩ := Option.isSome_iff_exists.1 h2
    have hx' : (m.cutTo F).M k = some x := by rw [hM k h1]; exact hx
    obtain ⟨i, hi, ei, _⟩ := (h.look k h1 x).1 hx'
    rcases hL with ⟨_, hL⟩ | ⟨p, rfl, hp, hpF, hpm⟩
    · have := hL i hi
      omega
    · have hle := hpm i hi (by omega)
      have hek : cAt cs p = k := by
        rcases Nat.lt_or_ge (cAt cs p) k with h6 | h6
        · have h7 := h3 _ hpF h6
          rw [hlk p hp hpF] at h7
          cases h7
        · omega
      exact .inr ⟨k, rs', p, rfl, rfl, hp, hek, by rw [← hek]; exact hlk p hp hpF, h4, h5⟩
theorem textsG_snoc (M : Nat → Option ByteArray) (d : List Nat) (k : Nat) : textsG M (d ++ [k]) = textsG M d ++ [(M k).getD ByteArray.empty] := by simp [textsG]
set_option maxRecDepth 100000 in
set_option maxHeartbeats 2000000 in
theorem rtell_any {w : World} {g : Nat} {vc vd : Value} {cs : List Nat} {dd : List ByteArray} {m : GcM} (h : PGt w g vc vd cs dd m) (b : Bool) (ks : List Nat) (hs : StepsG m.M b m.fst ks) (hl : cs.length ≤ 1000000000) :
    Calls Try.prog 33 #[.pointer (some ⟨g, 0, none⟩), .bool b] w (RtPost w g vc vd cs dd m ks) := by
  have h0 : PGt w g vc vd cs dd (m.cutTo m.fst) := by
    have e : m.cutTo m.fst = m := by
      show (⟨m.key, m.fst, cutM m.M m.fst⟩ : GcM) = m
      rw [cutM_zero m.M h.ok.past]
    rw [e]; exact h
  obtain ⟨i0, hi, hz0, hz1, hz2⟩ := info_parts Try.infoTx
  have hend := steps_end h.ok.top ks m.fst hs h.ok.few
  have HOK := hid h.ok
  have HLT := hid h.lt
  obtain ⟨ac, cc, rfl, -, -, -⟩ := row_shape h.rowc
  obtain ⟨ad, cd, rfl, -, -, -⟩ := row_shape h.rowd
  obtain ⟨C, eC⟩ : ∃ C, C = cs.length := ⟨_, rfl⟩
  have hC9 : C ≤ 1000000000 := by omega
  have hlen := h.len
  have HEC := hid eC
  have HLEN := hid hlen
  have HS := hid hs
  have HEND := hid hend
  have hkl : ks.length ≤ 16777216 := by omega
  clear h hs hend eC hl hlen
  go_enter Try.func33, Try.ntmps33
  go_wp2_with fail
  go_loopw [5] (fun v wr => ∃ (dn rs : List Nat) (F : Nat), ks = dn ++ rs ∧ StepsG m.M b F rs ∧ F ≤ 16777216 ∧ endG F rs = endG m.fst ks ∧ wr.ownsRow w.heap.size 9 1 v dn.length ((textsG m.M dn).map Value.string) ∧ PGt wr g (.slice ac cs.length cc) (.slice ad dd.length cd) cs dd (m.cutTo F) ∧ Kept [g] w wr) (fun v _ => ks.length + 1 - lenV v)
  case atStart => exact ⟨[], ks, m.fst, rfl, HS.out, HOK.out.few, rfl, ⟨rfl, .inl ⟨rfl, rfl⟩⟩, h0, Kept.refl _ _⟩
  case round =>
    obtain ⟨dn, rs, F, hks, hst, hF, hen, ho, hP, hK⟩ := hrel
    clear h0
    obtain ⟨ao, co, rfl, -, -, -⟩ := row_shape ho
    have c1 : wr.cell? ⟨g, 1, none⟩ = some (.int .i64 (F : Int)) := hP.hd.cell 1
    have c2 : wr.cell? ⟨g, 2, none⟩ = some (.slice ac C cc) := by rw [HEC.out]; exact hP.hd.cell 2
    have HKS := hid hks
    have HST := hid hst
    have HEN := hid hen
    have HO := hid ho
    have HP := hid hP
    have HK := hid hK
    have HCELL := hid (fun wx (hb : Below wr.heap.size wr wx) => (show (wx.cell? ⟨g, 1, none⟩ = some (.int .i64 (F : Int)) ∧ wx.cell? ⟨g, 2, none⟩ = some (.slice ac C cc) ∧ wx.cell? ⟨g, 3, none⟩ = some (.slice ad C cd) ∧ wx.frozen? ⟨g, 1, none⟩ = false ∧ ∀ i, i < C → ∃ gc, ac = some ⟨gc, 0, none⟩ ∧ ∀ i, i < C → wx.cell? ⟨gc, i, none⟩ = some (.int .i64 ((cAt cs i : Nat) : Int))) from by
      have h9 := hP.kept (S := []) (Kept.of_below hb) (by simp)
      refine ⟨h9.hd.cell 1, by rw [HEC.out]; exact h9.hd.cell 2, by rw [HEC.out, HLEN.out]; exact h9.hd.cell 3, h9.hd.free 1, fun i hi => ?_⟩
      obtain ⟨gc, e1, e2⟩ := row_nats h9.rowc (i := i) (by rw [← HEC.out]; exact hi)
      exact ⟨gc, e1, fun i hi => e2 i (by rw [← HEC.out]; exact hi)⟩))
    clear hks hst hen ho hP hK
    obtain ⟨w0, ew0⟩ : ∃ w0, w0 = wr := ⟨_, rfl⟩
    rw [← ew0] at HO HP HK HCELL c1 c2 ⊢
    clear ew0
    go_wp2_with fail
    go_loopw [6, 7] (fun v i wx => ∃ (q : Int) (j : Nat), v = .int .i64 q ∧ j ≤ C ∧ i = .int .i64 j ∧ LeastI cs F j q ∧ Below w0.heap.size w0 wx) (fun _ i _ => C - (intOf i).toNat)
    case atStart => exact ⟨-1, 0, rfl, Nat.zero_le _, rfl, .inl ⟨rfl, fun j hj => absurd hj (Nat.not_lt_zero _)⟩, Below.refl _ _⟩
    case round =>
      obtain ⟨q, j, rfl, hj, rfl, hL, hbw⟩ := hrel
      clear c1 c2
      obtain ⟨c1, c2, c3, f1, hcc⟩ := HCELL.out _ hbw
      by_cases hjC : j < C
      · obtain ⟨gc, rfl, hcel⟩ := hcc j hjC
        have cj := hcel j hjC
        by_cases hge : F ≤ cAt cs j
        · have hge' : (F : Int) ≤ (cAt cs j : Int) := by omega
          rcases hL with ⟨rfl, hL⟩ | ⟨p, rfl, hp, hpF, hpm⟩
          · have HN := hid (show LeastI cs F (j + 1) (j : Int) from .inr ⟨j, rfl, by omega, hge, fun i hi hF' => by
              rcases Nat.lt_or_ge i j with q | q
              · have := hL i q; omega
              · have : i = j := by omega
                subst this; exact Nat.le_refl _⟩)
            generalize cAt cs j = X at *
            clear hcel hcc hL
            go_upto_region 6 with fail
            go_quiet (fail)
            go_wp2_with fail
            exact ⟨⟨_, j + 1, rfl, by omega, by go_num, HN.out, below_drewNG hbw _⟩, by simp [intOf]; omega⟩
          · have cp := hcel p (by omega)
            have hpC : p < C := by omega
            have hp0 : ¬ ((p : Int) < 0) := by omega
            by_cases hlt : cAt cs j < cAt cs p
            · have HN := hid (show LeastI cs F (j + 1) (j : Int) from .inr ⟨j, rfl, by omega, hge, fun i hi hF' => by
                rcases Nat.lt_or_ge i j with q | q
                · have := hpm i q hF'; omega
                · have : i = j := by omega
                  subst this; exact Nat.le_refl _⟩)
              have hlt' : (cAt cs j : Int) < (cAt cs p : Int) := by omega
              generalize cAt cs j = X at *
              generalize cAt cs p = Y at *
              clear hcel hcc hpm
              go_upto_region 6 with fail
              go_quiet (fail)
              go_wp2_with fail
              exact ⟨⟨_, j + 1, rfl, by omega, by go_num, HN.out, below_drewNG hbw _⟩, by simp [intOf]; omega⟩
            · have HN := hid (show LeastI cs F (j + 1) (p : Int) from .inr ⟨p, rfl, by omega, hpF, fun i hi hF' => by
                rcases Nat.lt_or_ge i j with q | q
                · exact hpm i q hF'
                · have : i = j := by omega
                  subst this; omega⟩)
              have hlt' : ¬ (cAt cs j : Int) < (cAt cs p : Int) := by omega
              generalize cAt cs j = X at *
              generalize cAt cs p = Y at *
              clear hcel hcc hpm
              go_upto_region 6 with fail
              go_quiet (fail)
              go_wp2_with fail
              exact ⟨⟨_, j + 1, rfl, by omega, by go_num, HN.out, below_drewNG hbw _⟩, by simp [intOf]; omega⟩
        · have hge' : ¬ (F : Int) ≤ (cAt cs j : Int) := by omega
          have HN := hid (show LeastI cs F (j + 1) q from by
            rcases hL with ⟨e, hL⟩ | ⟨p, e, hp, hpF, hpm⟩
            · exact .inl ⟨e, fun i hi => by
                rcases Nat.lt_or_ge i j with q | q
                · exact hL i q
                · have : i = j := by omega
                  subst this; omega⟩
            · exact .inr ⟨p, e, by omega, hpF, fun i hi hF' => by
                rcases Nat.lt_or_ge i j with q | q
                · exact hpm i q hF'
                · have : i = j := by omega
                  subst this; omega⟩)
          generalize cAt cs j = X at *
          clear hcel hcc hL
          go_upto_region 6 with fail
          go_quiet (fail)
          go_wp2_with fail
          exact ⟨⟨_, j + 1, rfl, by omega, by go_num, HN.out, below_drewNG hbw _⟩, by simp [intOf]; omega⟩
      · obtain rfl : j = C := by omega
        have hL' : LeastI cs F cs.length q := by rw [← HEC.out]; exact hL
        have HC0 := hid hC9
        clear hL hjC hj
        have hp_len := HLEN.out
        rcases least_cases HP.out HST.out hL' with ⟨rfl, hq⟩ | ⟨k, rs', p, rfl, rfl, hp, hek, hMk, hbk, hst'⟩
        · clear hp_len
          have HRET : Hid (∀ nq, RtPost w g (.slice ac cs.length cc) (.slice ad dd.length cd) cs dd m ks (.returned (.slice ao dn.length co)) (wr.drewN nq)) := fun nq => by
            have e1 : ks = dn := by rw [HKS.out, List.append_nil]
            have hbn := below_drewNG hbw nq
            refine ⟨_, rfl, ?_, HK.out.trans (Kept.of_below hbn), ?_⟩
            · rw [e1]
              exact row_kept HO.out (S := []) (Kept.of_below hbn) (by simp)
            · have e2 : F = endG m.fst ks := HEN.out
              rw [← e2]
              exact HP.out.kept (S := []) (Kept.of_below hbn) (by simp)
          rcases hq with rfl | ⟨p, rfl, hp, rfl, hne⟩
          · clear hcc hL'
            go_upto_region 8 with fail
            go_quiet (fail)
            go_wp2_with fail
            go_ret
            exact HRET.out _
          · have hpC : p < j := by rw [HEC.out]; exact hp
            have hp0 : ¬ ((p : Int) < 0) := by omega
            obtain ⟨gc, rfl, hcel⟩ := hcc p hpC
            have cp := hcel p hpC
            have hne' : ((cAt cs p : Int) != (F : Int)) = true := by simp; omega
            generalize cAt cs p = Y at *
            clear hcc hL' hcel hne
            go_upto_region 8 with fail
            go_quiet (fail)
            go_wp2_with fail
            go_ret
            exact HRET.out _
        · have hpC : p < j := by rw [HEC.out]; exact hp
          have hpd : p < dd.length := by rw [← hp_len]; exact hp
          clear hp_len
          have hp0 : ¬ ((p : Int) < 0) := by omega
          have hk24 : k < 16777216 := by rw [← hek]; exact HP.out.top p hp
          have hFk : F ≤ k := by
            have := HST.out
            exact this.1
          have hdk : dn.length ≤ 16777216 := by
            have := congrArg List.length HKS.out
            rw [List.length_append] at this
            omega
          obtain ⟨gc, rfl, hcel⟩ := hcc p hpC
          have cp := hcel p hpC
          rw [hek] at cp
          clear hL' hcel
          cases b with
          | true =>
            go_upto_region 8 with fail
            go_quiet (fail)
            obtain ⟨W, eW⟩ : ∃ W, W = wr.drewN nq := ⟨_, rfl⟩
            rw [← eW]
            have hbW : Below w0.heap.size w0 W := by rw [eW]; exact below_drewNG hbw nq
            obtain ⟨y1, y2, y3, yf, ycc⟩ := HCELL.out W hbW
            obtain ⟨gc', ec', ycel⟩ := ycc p hpC
            obtain rfl : gc' = gc := by simpa using ec'.symm
            have yp := ycel p hpC
            rw [hek] at yp
            have hPW := HP.out.kept (S := []) (Kept.of_below hbW) (by simp)
            obtain ⟨gd, od, hgd, hcd⟩ := (row_txs hPW.rowd).at hpd
            subst hgd
            have yd : W.cell? ⟨gd, od + p, none⟩ = some (.string (dAt dd p)) := hcd p hpd
            have hoW := row_kept HO.out (S := []) (Kept.of_below hbW) (by simp)
            obtain ⟨X, eX⟩ : ∃ X, X = dAt dd p := ⟨_, rfl⟩
            rw [← eX] at yd
            have ho3 := World.ownsRow.alloc hoW (.cells #[.string X] 9)
            have HX := hid (at_newG W 9 [.string X])
            have HPW := hid hPW
            have HHO := hid hoW
            have HEX := hid eX
            have hsW : w.heap.size ≤ W.heap.size := Nat.le_trans HK.out.size hbW.size
            clear ycc ycel hcd hPW hoW eX eW c1 c2 c3 f1 hcc cp
            have HQ1 := hid (show ∀ (q : Nat) u, [Value.string X][q]? = some u → (W.alloc (.cells #[.string X] 9)).cell? ⟨W.heap.size, q, none⟩ = some u from fun q u hq => by rw [HX.out.cell q]; exact hq)
            have HQ2 := hid (show ∀ u ∈ [Value.string X], u.oneCell' = true by simp [Value.oneCell'])
            have HQ3 := hid (show dn.length + 1 ≤ maxLen by unfold maxLen; omega)
            have HQ4 := hid (show (dn.length + 1) * 16 ≤ 140737488355328 by omega)
            have HQ5 := hid (show w.heap.size ≤ (W.alloc (.cells #[.string X] 9)).heap.size by rw [World.size_alloc]; omega)
            go_wp2_with (at_builtin; refine wpList_pushR (W := W.alloc (.cells #[.string X] 9)) w.heap.size W.heap.size Try.underlying32 hi hz0 hz1 hz2 rfl (by omega) ho3 rfl _ _ rfl rfl rfl (news := [.string X]) rfl HQ1.out HQ2.out HQ3.out HQ4.out HQ5.out ?_)
            intro v' w4 ho4 hg4 hb4
            have hK4 : Kept (ownB (.slice ao dn.length co)) W w4 := ((Kept.refl _ W).alloc _).trans (Kept.grownR hg4)
            have hnb : ∀ q ∈ ownB (.slice ao dn.length co), w.heap.size ≤ q := fun q hq => (row_new HHO.out q hq).1
            have hP4 := HPW.out.kept hK4 (fun x hx e => by
              have h1 := hnb x e
              have h2 := HLT.out x hx
              omega)
            have z1 : w4.cell? ⟨g, 1, none⟩ = some (.int .i64 (F : Int)) := hP4.hd.cell 1
            have z2 : w4.cell? ⟨g, 2, none⟩ = some (.slice (some ⟨gc', 0, none⟩) j cc) := by rw [HEC.out]; exact hP4.hd.cell 2
            have zf := hP4.hd.free 1
            obtain ⟨gc4, ec4, zc4⟩ := row_nats hP4.rowc (i := p) hp
            obtain rfl : gc4 = gc' := by simpa using ec4.symm
            have zp := zc4 p hp
            rw [hek] at zp
            obtain ⟨a', c', rfl, -, -, -⟩ := row_shape ho4
            have e1 : (textsG m.M dn).map Value.string ++ [.string X] = (textsG m.M (dn ++ [k])).map Value.string := by
              rw [textsG_snoc, List.map_append, hMk, HEX.out]
              rfl
            rw [e1] at ho4
            have hP5 := hP4.first (e := k + 1) (by omega) (by omega) HOK.out
            rw [Int.natCast_add] at hP5
            have hk5 : Kept [g] w4 (w4.setCell ⟨g, 1, none⟩ (.int .i64 ((k : Int) + 1))) := (Kept.refl _ _).setCell (by simp) _
            have hgl := HLT.out g List.mem_cons_self
            have ho5 := row_kept ho4 hk5 (fun q hq e => by
              rw [List.mem_singleton] at e
              have := (row_new ho4 q hq).1
              omega)
            have HO5 := hid ho5
            have HP5 := hid hP5
            have HK5 := hid (((HK.out.trans (Kept.of_below hbW)).newG hK4 (fun x hx => .inr (hnb x hx))).trans hk5)
            clear ho3 ho4 hg4 hb4 hP4 hP5 ho5 hk5 hK4 zc4
            go_wp2_with fail
            refine ⟨⟨dn ++ [k], rs', k + 1, by rw [HKS.out, List.append_assoc]; rfl, hst', by omega, HEN.out, ?_, HP5.out, HK5.out⟩, ?_⟩
            · rw [List.length_append, List.length_singleton]
              exact HO5.out
            · have := congrArg List.length HKS.out
              rw [List.length_append, List.length_cons] at this
              simp [lenV]
              omega
          | false =>
            have HKF := hid (hbk rfl)
            have hnkF : ((k : Int) != (F : Int)) = false := by rw [HKF.out]; simp
            clear hbk
            go_upto_region 8 with fail
            go_quiet (fail)
            obtain ⟨W, eW⟩ : ∃ W, W = wr.drewN nq := ⟨_, rfl⟩
            rw [← eW]
            have hbW : Below w0.heap.size w0 W := by rw [eW]; exact below_drewNG hbw nq
            obtain ⟨y1, y2, y3, yf, ycc⟩ := HCELL.out W hbW
            obtain ⟨gc', ec', ycel⟩ := ycc p hpC
            obtain rfl : gc' = gc := by simpa using ec'.symm
            have yp := ycel p hpC
            rw [hek] at yp
            have hPW := HP.out.kept (S := []) (Kept.of_below hbW) (by simp)
            obtain ⟨gd, od, hgd, hcd⟩ := (row_txs hPW.rowd).at hpd
            subst hgd
            have yd : W.cell? ⟨gd, od + p, none⟩ = some (.string (dAt dd p)) := hcd p hpd
            have hoW := row_kept HO.out (S := []) (Kept.of_below hbW) (by simp)
            obtain ⟨X, eX⟩ : ∃ X, X = dAt dd p := ⟨_, rfl⟩
            rw [← eX] at yd
            have ho3 := World.ownsRow.alloc hoW (.cells #[.string X] 9)
            have HX := hid (at_newG W 9 [.string X])
            have HPW := hid hPW
            have HHO := hid hoW
            have HEX := hid eX
            have hsW : w.heap.size ≤ W.heap.size := Nat.le_trans HK.out.size hbW.size
            clear ycc ycel hcd hPW hoW eX eW c1 c2 c3 f1 hcc cp
            have HQ1 := hid (show ∀ (q : Nat) u, [Value.string X][q]? = some u → (W.alloc (.cells #[.string X] 9)).cell? ⟨W.heap.size, q, none⟩ = some u from fun q u hq => by rw [HX.out.cell q]; exact hq)
            have HQ2 := hid (show ∀ u ∈ [Value.string X], u.oneCell' = true by simp [Value.oneCell'])
            have HQ3 := hid (show dn.length + 1 ≤ maxLen by unfold maxLen; omega)
            have HQ4 := hid (show (dn.length + 1) * 16 ≤ 140737488355328 by omega)
            have HQ5 := hid (show w.heap.size ≤ (W.alloc (.cells #[.string X] 9)).heap.size by rw [World.size_alloc]; omega)
            go_wp2_with (at_builtin; refine wpList_pushR (W := W.alloc (.cells #[.string X] 9)) w.heap.size W.heap.size Try.underlying32 hi hz0 hz1 hz2 rfl (by omega) ho3 rfl _ _ rfl rfl rfl (news := [.string X]) rfl HQ1.out HQ2.out HQ3.out HQ4.out HQ5.out ?_)
            intro v' w4 ho4 hg4 hb4
            have hK4 : Kept (ownB (.slice ao dn.length co)) W w4 := ((Kept.refl _ W).alloc _).trans (Kept.grownR hg4)
            have hnb : ∀ q ∈ ownB (.slice ao dn.length co), w.heap.size ≤ q := fun q hq => (row_new HHO.out q hq).1
            have hP4 := HPW.out.kept hK4 (fun x hx e => by
              have h1 := hnb x e
              have h2 := HLT.out x hx
              omega)
            have z1 : w4.cell? ⟨g, 1, none⟩ = some (.int .i64 (F : Int)) := hP4.hd.cell 1
            have z2 : w4.cell? ⟨g, 2, none⟩ = some (.slice (some ⟨gc', 0, none⟩) j cc) := by rw [HEC.out]; exact hP4.hd.cell 2
            have zf := hP4.hd.free 1
            obtain ⟨gc4, ec4, zc4⟩ := row_nats hP4.rowc (i := p) hp
            obtain rfl : gc4 = gc' := by simpa using ec4.symm
            have zp := zc4 p hp
            rw [hek] at zp
            obtain ⟨a', c', rfl, -, -, -⟩ := row_shape ho4
            have e1 : (textsG m.M dn).map Value.string ++ [.string X] = (textsG m.M (dn ++ [k])).map Value.string := by
              rw [textsG_snoc, List.map_append, hMk, HEX.out]
              rfl
            rw [e1] at ho4
            have hP5 := hP4.first (e := k + 1) (by omega) (by omega) HOK.out
            rw [Int.natCast_add] at hP5
            have hk5 : Kept [g] w4 (w4.setCell ⟨g, 1, none⟩ (.int .i64 ((k : Int) + 1))) := (Kept.refl _ _).setCell (by simp) _
            have hgl := HLT.out g List.mem_cons_self
            have ho5 := row_kept ho4 hk5 (fun q hq e => by
              rw [List.mem_singleton] at e
              have := (row_new ho4 q hq).1
              omega)
            have HO5 := hid ho5
            have HP5 := hid hP5
            have HK5 := hid (((HK.out.trans (Kept.of_below hbW)).newG hK4 (fun x hx => .inr (hnb x hx))).trans hk5)
            clear ho3 ho4 hg4 hb4 hP4 hP5 ho5 hk5 hK4 zc4
            go_wp2_with fail
            refine ⟨⟨dn ++ [k], rs', k + 1, by rw [HKS.out, List.append_assoc]; rfl, hst', by omega, HEN.out, ?_, HP5.out, HK5.out⟩, ?_⟩
            · rw [List.length_append, List.length_singleton]
              exact HO5.out
            · have := congrArg List.length HKS.out
              rw [List.length_append, List.length_cons] at this
              simp [lenV]
              omega
end Go.Proofs.Ytbmdjfolfmgmmag
