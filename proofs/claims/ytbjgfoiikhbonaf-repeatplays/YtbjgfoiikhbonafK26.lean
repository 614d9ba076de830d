import Derived.Test.YtbjgfoiikhbonafK25
set_option linter.unusedVariables false
set_option linter.unusedSimpArgs false
namespace Go.Proofs.Ytbjgfoiikhbonaf
open Go.ChangeShapes Go.WideShapes Go.ChangeAt Go.RowKit
theorem set_sameV {cur : List Value} {o : Nat} {v : Value} (h : cur[o]? = some v) : cur.set o v = cur := by
  refine List.ext_getElem? fun i => ?_
  rw [List.getElem?_set]
  split
  · rename_i e; subst e; split
    · exact h.symm
    · rename_i h3; rw [List.getElem?_eq_none (by omega)]
  · rfl
theorem get_extract {s : ByteArray} {a i : Nat} (h : a + i < s.size) : (s.extract a s.size).get! i = s.get! (a + i) := by
  have hsz : s.data.size = s.size := rfl
  have hd : (s.extract a s.size).data = s.data.extract a s.size := ByteArray.data_extract
  show (s.extract a s.size).data[i]! = s.data[a + i]!
  rw [hd, getElem!_pos s.data (a + i) (by omega), getElem!_pos (s.data.extract a s.size) i (by rw [Array.size_extract]; omega)]
  simp
theorem takeS {l : Sps} {k : Nat} (h : k < l.length) : l.take (k + 1) = l.take k ++ [l.getD k (0, 0)] := by
  rw [List.take_add_one, List.getD_eq_getElem?_getD, List.getElem?_eq_getElem h]
  rfl
/-- What stands behind add. -/
theorem tk_done {w wr w5 w6 : World} {g o gd : Nat} {x : TkP} {T : TypeId} {cur : List Value} {D : List Int} {dv v' : Value} {l' : Sps} {ln : Nat}
    (h : TkAt w g o x) (hA : At w g T cur) (hk : Kept (g :: (x.blk false).toList) w wr) (hAr : At wr g T (cur.set o dv)) (hO : Own wr 0 dv D) (hdv : dv.ownBlock = some gd) (hgd : x.blk false = some gd ∨ w.heap.size ≤ gd)
    (q1 : PtrPost wr w5 g (o + 1) x.tv.ownBlock.toList v') (q2 : OwnSp w5 v' l') (q5 : ∀ q, v'.ownBlock = some q → x.tv.ownBlock = some q ∨ wr.heap.size ≤ q)
    (hk6 : Kept [g] w5 w6) (hr6 : At w5 g T ((cur.set o dv).set (o + 1) v') → At w6 g T (((cur.set o dv).set (o + 1) v').set (o + 2) (.int .i64 (ln : Int)))) : TkPost w w6 g o x ⟨dv, D, v', l', ln⟩ := by
  have hgl := hA.lt
  have hgr := (World.ownsRow.lt hO gd hdv).2
  have hwr := hk.size
  have hgg : gd ≠ g := by
    rcases hgd with h1 | h1
    · exact h.sd gd h1
    · omega
  have htg : ∀ q, x.tv.ownBlock = some q → q < w.heap.size ∧ q ≠ g ∧ q ≠ gd := fun q hq => by
    have h1 := h.ot.lt hq
    refine ⟨h1, h.st q hq, ?_⟩
    rintro rfl
    rcases hgd with h2 | h2
    · exact h.dt q h2 hq
    · omega
  have hvg : ∀ q, v'.ownBlock = some q → q ≠ g ∧ q ≠ gd := fun q hq => by
    rcases q5 q hq with h1 | h1
    · exact (htg q h1).2
    · exact ⟨by omega, by omega⟩
  have hk5 : Kept (g :: x.tv.ownBlock.toList) wr w5 := q1.kept
  have hgd5 : gd ∉ g :: x.tv.ownBlock.toList := by
    rw [List.mem_cons]
    rintro (e | e)
    · exact hgg e
    · exact (htg gd (by simpa using e)).2.2 rfl
  refine ⟨?_, fun T' cur' hA' => ?_, ?_, ?_, fun k q hq => ?_, fun q hq hq' => ?_⟩
  · refine keptChain (keptChain (hk.wider (fun q hq => ?_)) hk5 (fun q hq => .inl ?_)) hk6 (fun q hq => .inl ?_)
    · rw [List.mem_cons] at hq ⊢
      rcases hq with e | e
      · exact .inl e
      · exact .inr (List.mem_append_left _ e)
    · rw [List.mem_cons] at hq ⊢
      rcases hq with e | e
      · exact .inl e
      · exact .inr (List.mem_append_right _ e)
    · rw [List.mem_singleton] at hq
      rw [hq]
      exact List.mem_cons_self
  · obtain ⟨rfl, rfl⟩ := hA.uniq hA'
    exact hr6 (q1.row _ _ hAr)
  · refine keptOwn (keptOwn hO hk5 (fun q hq => ?_)) hk6 (fun q hq => ?_)
    · rw [hdv] at hq
      cases hq
      exact hgd5
    · rw [hdv] at hq
      cases hq
      simpa using hgg
  · refine q2.kept hk6 (fun q hq => ?_)
    simpa using (hvg q hq).1
  · cases k
    · have hq : dv.ownBlock = some q := hq
      rw [hdv] at hq
      cases hq
      exact hgd
    · rcases q5 q hq with h1 | h1
      · exact .inl h1
      · exact .inr (by omega)
  · have hq : dv.ownBlock = some q := hq
    rw [hdv] at hq
    cases hq
    exact (hvg gd hq').2 rfl
def TAddPost (w : World) (g o : Nat) (x : TkP) (p : PieceM) : Ending → World → Prop := fun e w' => e = .returned (.tuple #[]) ∧ ∃ x', TkPost w w' g o x x' ∧ AddM x x' p.a p.b p.data p.last
set_option maxRecDepth 100000 in
set_option maxHeartbeats 4000000 in
theorem tadd_any {w : World} {g o : Nat} {x : TkP} {T : TypeId} {cur : List Value} (p : PieceM) (h : TkAt w g o x) (hA : At w g T cur) (hs : Srt x.th) (hE : endS x.th ≤ 1500) (hdl : x.data.length = endS x.th) (hf : 0 ≤ p.frm) (hb : p.b ≤ 1500) (h0 : 0 < p.data.size) :
    Calls Try.prog 42 #[.pointer (some ⟨g, o, none⟩), p.val] w (TAddPost w g o x p) := by
  have hgl := hA.lt
  have eb : (p.b : Int) = p.frm + p.data.size := by unfold PieceM.b; omega
  have ea : (p.a : Int) = p.frm := by unfold PieceM.a; omega
  have hab : p.a + p.data.size = p.b := by unfold PieceM.a PieceM.b; omega
  obtain ⟨aD, cD, eD, -, -, -⟩ := h.od.shape
  obtain ⟨aT, cT, eT, -, -, -⟩ := h.ot.shape
  have hEL : EndLe x.th 3000 := fun q hq => Nat.le_trans (hs.endLe q hq) (by omega)
  generalize hP : TAddPost w g o x p = Pst
  have H := hid h
  have HP := hid hP
  have HS := hid hs
  have HEL := hid hEL
  have HDL := hid hdl
  have HED := hid eD
  have HET := hid eT
  have c0 := h.c0
  have c1 := h.c1
  have c2 := h.c2
  rw [eD] at c0
  rw [eT] at c1
  clear h hP hs hEL hdl eD eT
  obtain ⟨A, eA⟩ : ∃ A, A = p.a := ⟨_, rfl⟩
  obtain ⟨B, eB⟩ : ∃ B, B = p.b := ⟨_, rfl⟩
  obtain ⟨LD, eLD⟩ : ∃ LD, LD = x.data.length := ⟨_, rfl⟩
  obtain ⟨LT, eLT⟩ : ∃ LT, LT = x.th.length := ⟨_, rfl⟩
  obtain ⟨LN, eLN⟩ : ∃ LN, LN = x.len := ⟨_, rfl⟩
  rw [← eA] at ea hab
  rw [← eB] at eb hab hb
  rw [← eLD] at c0
  rw [← eLT] at c1
  rw [← eLN] at c2
  have HLD := hid eLD
  have HLT := hid eLT
  have HLN := hid eLN
  have hLD : LD ≤ 1500 := by rw [eLD, HDL.out]; exact hE
  have hsz : p.data.size ≤ 1500 := by omega
  have hA15 : A ≤ 1500 := by omega
  have HEA := hid eA
  have HEB := hid eB
  clear eLD eLT eLN eA eB
  obtain ⟨num, frm, last, data⟩ := p
  dsimp only [PieceM.val] at *
  subst ea
  have hsum : (A : Int) + (data.size : Int) = (B : Int) := by omega
  clear eb
  go_enter Try.func42, Try.ntmps42
  go_upto_region 2 with fail
  obtain ⟨W1, eW⟩ : ∃ W1, W1 = (w.alloc (.cells #[.int .i64 num, .int .i64 (A : Int), .bool last, .string data] 64)).alloc (.cells #[.int .i64 (A : Int), .int .i64 (B : Int)] 114) := ⟨_, rfl⟩
  have hk : Kept [] w W1 := by rw [eW]; exact ((Kept.refl _ w).alloc _).alloc _
  have hsz1 : W1.heap.size = w.heap.size + 2 := by rw [eW]; simp
  have hp0 : At W1 w.heap.size 64 [.int .i64 num, .int .i64 (A : Int), .bool last, .string data] := by
    rw [eW]
    exact At.kept (at_alloc w _ [.int .i64 num, .int .i64 (A : Int), .bool last, .string data]) ((Kept.refl [] _).alloc _) (by simp)
  have hp1 : At W1 (w.heap.size + 1) 114 [.int .i64 (A : Int), .int .i64 (B : Int)] := by
    rw [eW]
    have := at_alloc (w.alloc (.cells #[.int .i64 num, .int .i64 (A : Int), .bool last, .string data] 64)) 114 [.int .i64 (A : Int), .int .i64 (B : Int)]
    simpa using this
  rw [← eW]
  clear eW
  have c0 := keptCellQ hk c0 (by simp)
  have x1 : W1.cell? ⟨w.heap.size + 1, 1, none⟩ = some (.int .i64 (B : Int)) := hp1.cell 1
  have hA1 : At W1 g T cur := hA.kept hk (by simp)
  have hod : Own W1 0 (.slice aD LD cD) x.data := by
    have := keptOwn H.out.od hk (by simp)
    rw [HED.out, ← HLD.out] at this
    exact this
  have HOD := hid hod
  have HK := hid hk
  clear hod hk c1 c2
  have HBK : Hid (x.blk false = (Value.slice aD LD cD).ownBlock) := by
    show _ = _
    unfold TkP.blk
    rw [HED.out, ← HLD.out]
    rfl
  go_region
  go_upto_if 23 with fail
  go_cut [] from 7 (fun wx => ∃ gd c1 : Nat, Own wx 0 (.slice (some ⟨gd, 0, none⟩) (max LD B) c1) (x.data ++ List.replicate (B - LD) 0) ∧ At wx g T (cur.set o (.slice (some ⟨gd, 0, none⟩) (max LD B) c1)) ∧ Kept (g :: (x.blk false).toList) W1 wx ∧ (x.blk false = some gd ∨ W1.heap.size ≤ gd))
  case first =>
    by_cases hlt : LD < B
    · have d1 : decide ((LD : Int) < (B : Int)) = true := decide_eq_true (by omega)
      have hsub : (B : Int) - (LD : Int) = ((B - LD : Nat) : Int) := by omega
      have hwr : IntKind.i64.wrap ((B - LD : Nat) : Int) = ((B - LD : Nat) : Int) := by rw [IntKind.wrap_i64]; omega
      obtain ⟨v', W2, hR, hO, hG, hN⟩ := Own.zeros (w := W1.drew.drew) (n := B - LD) HOD.out (by rw [← HLD.out]; omega)
      obtain ⟨a', c', ev, hne, -, -⟩ := Own.shape hO
      subst ev
      have hgS : g ∉ (Value.slice aD LD cD).ownBlock.toList := fun hm => by
        have h5 := H.out.sd g
        rw [HED.out, ← HLD.out] at h5
        exact h5 (by simpa using hm) rfl
      have hkG : Kept (Value.slice aD LD cD).ownBlock.toList W1.drew.drew W2 := Kept.grownR hG
      have s1 : W2.cell? ⟨g, o, none⟩ = some (.slice aD LD cD) := keptCellQ hkG c0 hgS
      have hAW2 : At W2 g T cur := At.kept (w := W1.drew.drew) hA1 hkG hgS
      have s2 : W2.frozen? ⟨g, o, none⟩ = false := hAW2.free o
      have hlen2 : (x.data ++ List.replicate (B - LD) 0).length = max LD B := by rw [List.length_append, List.length_replicate, ← HLD.out]; omega
      rw [hlen2] at hR hO
      have HR := hid hR
      have HO := hid hO
      have HKG := hid hkG
      have HAW := hid hAW2
      have HN := hid hN
      have HNE := hid hne
      rw [hlen2] at hN
      have HN := hid hN
      clear hR hO hG hN hne hgS hkG hAW2 hlen2
      go_upto_region 3 with fail
      go_region_law (refine step_bi2 rfl .append (.tmp 28) (.tmp 36) 108 3 rfl (.slice aD LD cD) (.int .i64 ((B - LD : Nat) : Int)) (by simp [Act.eval, Act.put]) (by simp [Act.eval, Act.put]) (bi_append (HR.out _)) ?_)
      all_goals
        go_wp2_with fail
        go_meet
        case rel =>
          obtain ⟨gd, ead⟩ := HNE.out (by rw [← List.length_pos_iff, List.length_append, List.length_replicate]; omega)
          subst ead
          refine ⟨gd, c', ?_, HAW.out.setCell _, ?_, ?_⟩
          · refine keptOwn HO.out (kept_setCell W2 g o _) (fun q hq => ?_)
            rw [List.mem_singleton]
            rintro rfl
            rcases HN.out q hq with h5 | h5
            · exact H.out.sd q (by rw [HED.out, ← HLD.out]; exact h5) rfl
            · have h5 : W1.heap.size ≤ q := h5
              omega
          · rw [HBK.out]
            have h5 : Kept (g :: (Value.slice aD LD cD).ownBlock.toList) W1 W2 := (((Kept.refl _ W1).drew).drew).trans (HKG.out.wider (fun q hq => List.mem_cons_of_mem _ hq))
            exact h5.setCell (p := ⟨g, o, none⟩) (show g ∈ g :: _ from List.mem_cons_self) _
          · rw [HBK.out]
            exact HN.out gd rfl
    · have d1 : decide ((LD : Int) < (B : Int)) = false := decide_eq_false (by omega)
      go_wp2_with fail
      go_meet
      case rel =>
        obtain ⟨a5, c5, e5, hne5, -, -⟩ := Own.shape HOD.out
        simp only [Value.slice.injEq] at e5
        obtain ⟨e6, -, -⟩ := e5
        subst e6
        obtain ⟨gd, ead⟩ := hne5 (by rw [← List.length_pos_iff, ← HLD.out]; omega)
        subst ead
        have e7 : max LD B = LD := by omega
        have e8 : B - LD = 0 := by omega
        rw [e7, e8, List.replicate_zero, List.append_nil]
        refine ⟨gd, cD, HOD.out, ?_, (Kept.refl _ W1).drew, .inl HBK.out⟩
        rw [set_sameV (by rw [← hA1.cell]; exact c0)]
        exact hA1
  case rest =>
    obtain ⟨w2, rfl⟩ : ∃ w2, w2 = wc := ⟨_, rfl⟩
    obtain ⟨gd, c1, hO, hAc, hKc, hgd⟩ := hcut
    have hgdl : gd < w2.heap.size := (World.ownsRow.lt hO gd rfl).2
    have hwc : W1.heap.size ≤ w2.heap.size := hKc.size
    have hblt : ∀ q, q ∈ g :: (x.blk false).toList → q < w.heap.size := fun q hq => by
      rw [List.mem_cons] at hq
      rcases hq with e | e
      · omega
      · have e' : x.blk false = some q := by simpa using e
        exact (World.ownsRow.lt H.out.od q e').2
    have hN0 : w.heap.size ∉ g :: (x.blk false).toList := fun hq => by have := hblt _ hq; omega
    have hN1 : w.heap.size + 1 ∉ g :: (x.blk false).toList := fun hq => by have := hblt _ hq; omega
    have hpc := hp0.kept hKc hN0
    have hxc := hp1.kept hKc hN1
    have hKw : Kept (g :: (x.blk false).toList) w w2 := (HK.out.wider (by simp)).trans hKc
    have hcu1 : cur[o + 1]? = some (.slice aT LT cT) := by rw [← hA.cell, H.out.c1, HET.out, ← HLT.out]
    have hcu2 : cur[o + 2]? = some (.int .i64 (LN : Int)) := by rw [← hA.cell, H.out.c2, ← HLN.out]
    have k0 : w2.cell? ⟨g, o, none⟩ = some (.slice (some ⟨gd, 0, none⟩) (max LD B) c1) := by
      rw [hAc.cell, List.getElem?_set_self]
      exact (List.getElem?_eq_some_iff.1 ((hA.cell o).symm.trans H.out.c0)).1
    have k1 : w2.cell? ⟨g, o + 1, none⟩ = some (.slice aT LT cT) := by rw [hAc.cell, List.getElem?_set_ne (by omega)]; exact hcu1
    have hot : OwnSp w2 (.slice aT LT cT) x.th := by
      have := H.out.ot.kept hKw (fun q hq hm => by
        rw [List.mem_cons] at hm
        rcases hm with e | e
        · exact H.out.st q hq e
        · have e' : x.blk false = some q := by simpa using e
          exact H.out.dt q e' hq)
      rw [HET.out, ← HLT.out] at this
      exact this
    have y0 : w2.cell? ⟨w.heap.size + 1, 0, none⟩ = some (.int .i64 (A : Int)) := hxc.cell 0
    have y1 : w2.cell? ⟨w.heap.size + 1, 1, none⟩ = some (.int .i64 (B : Int)) := hxc.cell 1
    have hgp := spGaps_any (w := w2.drew) (lo := A) (hi := B) hot HS.out HEL.out (by omega) (by omega)
    unfold GapsPost at hgp
    obtain ⟨G, eG⟩ : ∃ G, G = gapsM B A x.th := ⟨_, rfl⟩
    obtain ⟨n, en⟩ : ∃ n, n = G.length := ⟨_, rfl⟩
    rw [← eG] at hgp
    have hn : n ≤ 4000 := by
      have h1 := gapsM_len (hi := B) (l := x.th) (lo := A)
      have h2 := HS.out.few HEL.out
      rw [← eG, ← en] at h1
      omega
    have EG := hid eG
    have EN := hid en
    have HO := hid hO
    have HAc := hid hAc
    have HKc := hid hKc
    have HKw := hid hKw
    have HOT := hid hot
    have HGD := hid hgd
    have HPC := hid hpc
    have HXC := hid hxc
    have HN0 := hid hN0
    have HN1 := hid hN1
    have HBL := hid hblt
    clear hO hAc hKc hKw hot hgd hpc hxc eG en hN0 hN1 hblt c0 x1
    go_upto_region 4 with fail
    go_cut [45, 46, 47] from 7 (fun s45 s46 s47 wx => ∃ (aG : Option Addr) (cG : Nat), s45 = .slice aG n cG ∧ s46 = .int .i64 (n : Int) ∧ s47 = .int .i64 ((0 : Nat) : Int) ∧ OwnSi wx w2.heap.size (.slice aG n cG) (intsS G) ∧ Below w2.heap.size w2 wx)
    case first =>
      have hnn : (intsS G).length = n := by rw [intsS_len]; exact EN.out.symm
      rw [intsS_len] at hnn
      go_region_with (go_at_call 61; refine hgp.mono ?_; rintro e' w4 ⟨v4, rfl, ho4, hb4⟩; obtain ⟨aG, cG, rfl, -, -, -⟩ := row_shape ho4; have HO4 := hid ho4; have HB4 := hid hb4; clear ho4 hb4)
      all_goals
        go_wp2_with fail
        go_meet
        case rel =>
          have h1 := HO4.out
          rw [intsS_len, hnn] at h1
          refine ⟨aG, cG, by rw [intsS_len, hnn], by rw [intsS_len, hnn], rfl, h1, ((Below.refl _ w2).drew).trans HB4.out⟩
    case rest =>
      obtain ⟨aG, cG, rfl, rfl, rfl, hOG, hbG⟩ := hcut
      obtain ⟨w4, rfl⟩ : ∃ w4, w4 = wc := ⟨_, rfl⟩
      have hw4 : w2.heap.size ≤ w4.heap.size := hbG.size
      have hK4 : Kept [] w2 w4 := Kept.of_below hbG
      have hD0 : (x.data ++ List.replicate (B - LD) 0).length = max LD B := by rw [List.length_append, List.length_replicate, ← HLD.out]; omega
      have hO4 : Own w4 0 (.slice (some ⟨gd, 0, none⟩) (max LD B) c1) (x.data ++ List.replicate (B - LD) 0) := keptOwn HO.out hK4 (by simp)
      obtain ⟨D0, eD0⟩ : ∃ D0, D0 = x.data ++ List.replicate (B - LD) 0 := ⟨_, rfl⟩
      rw [← eD0] at hO4 hD0
      have hcap : max LD B ≤ c1 := by obtain ⟨-, -, -, h5, -⟩ := row_at hO4; rw [hD0] at h5; exact h5
      have hcap' : c1 ≤ 9223372036854775807 := by obtain ⟨-, -, -, -, h5, -⟩ := row_at hO4; unfold maxLen at h5; omega
      have hgr : ∀ q ∈ G, A ≤ q.1 ∧ q.1 < q.2 ∧ q.2 ≤ B := fun q hq => gapsM_pos q (by rw [← EG.out]; exact hq)
      have HGR := hid hgr
      have HD0 := hid hD0
      have ED0 := hid eD0
      have HOG := hid hOG
      have HK4 := hid hK4
      have HO4 := hid hO4
      clear hgr hD0 eD0 hOG hbG hK4 hO4 k0 k1 y0 y1 hgp
      go_wp2_with fail
      go_loopw [47] (fun vi wr => ∃ (k : Nat) (D : List Int), k ≤ n ∧ vi = .int .i64 (k : Int) ∧ D.length = max LD B ∧ (∀ t, inS (G.take k) t → D.getD t 0 = ((data.get! (t - A)).toNat : Int)) ∧ (∀ t, ¬ inS (G.take k) t → D.getD t 0 = D0.getD t 0) ∧ Own wr 0 (.slice (some ⟨gd, 0, none⟩) (max LD B) c1) D ∧ Kept [gd] w4 wr) (fun vi _ => n - (intOf vi).toNat)
      case atStart => exact ⟨0, D0, Nat.zero_le _, rfl, HD0.out, fun t ht => absurd ht (inS_nil t), fun _ _ => rfl, HO4.out, Kept.refl _ _⟩
      case round =>
        obtain ⟨k, D, hkn, rfl, hDl, hD1, hD2, hOD, hKr⟩ := hrel
        have hgd2 : gd < w2.heap.size := hgdl
        by_cases hlt : k < n
        · have hkG : k < G.length := by rw [← EN.out]; exact hlt
          obtain ⟨gG, rfl, hgGl, hcG⟩ := HOG.out.at (i := k) (by rw [intsS_len]; exact hkG)
          have hgG2 : w2.heap.size ≤ gG := (World.ownsRow.lt HOG.out gG rfl).1
          obtain ⟨z0, z1⟩ := hcG k (by rw [intsS_len]; exact hkG)
          have hq := HGR.out _ (getD_memS hkG)
          have hTK := hid (takeS hkG)
          have eI : (intsS G).getD k (0, 0) = (((G.getD k (0, 0)).1 : Int), ((G.getD k (0, 0)).2 : Int)) := by
            unfold intsS
            rw [List.getD_eq_getElem?_getD, List.getElem?_map, List.getD_eq_getElem?_getD, List.getElem?_eq_getElem hkG]
            rfl
          rw [eI] at z0 z1
          obtain ⟨P, eP⟩ : ∃ P, P = (G.getD k (0, 0)).1 := ⟨_, rfl⟩
          obtain ⟨Q, eQ⟩ : ∃ Q, Q = (G.getD k (0, 0)).2 := ⟨_, rfl⟩
          rw [← eP, ← eQ] at hq
          have z0 : w4.cell? ⟨gG, k * 2, none⟩ = some (.int .i64 (P : Int)) := by rw [eP]; exact z0
          have z1 : w4.cell? ⟨gG, k * 2 + 1, none⟩ = some (.int .i64 (Q : Int)) := by rw [eQ]; exact z1
          have hKr2 : Kept [gd] w2 wr := (HK4.out.wider (by simp)).trans hKr
          have z0 := keptCellQ hKr z0 (by show gG ∉ [gd]; simp; omega)
          have z1 := keptCellQ hKr z1 (by show gG ∉ [gd]; simp; omega)
          have EPQ := hid (show (P, Q) = G.getD k (0, 0) by rw [eP, eQ])
          have hgdg : gd ≠ g := by
            rcases HGD.out with h1 | h1
            · exact H.out.sd gd h1
            · omega
          have hgdlt : ∀ q, q ∈ [gd] → q ≠ w.heap.size ∧ q ≠ w.heap.size + 1 := fun q hq' => by
            rw [List.mem_singleton] at hq'
            subst hq'
            rcases HGD.out with h1 | h1
            · have := (World.ownsRow.lt H.out.od q h1).2
              omega
            · omega
          have hAr : At wr g T (cur.set o (.slice (some ⟨gd, 0, none⟩) (max LD B) c1)) := HAc.out.kept hKr2 (by simpa using fun e => hgdg e.symm)
          have hPr := HPC.out.kept hKr2 (fun hm => (hgdlt _ hm).1 rfl)
          have hXr := HXC.out.kept hKr2 (fun hm => (hgdlt _ hm).2 rfl)
          have hkA : Kept [] wr (wr.alloc (.cells #[.int .i64 (P : Int), .int .i64 (Q : Int)] 114)) := (Kept.refl _ wr).alloc _
          obtain ⟨WA, eWA⟩ : ∃ WA, WA = wr.alloc (.cells #[.int .i64 (P : Int), .int .i64 (Q : Int)] 114) := ⟨_, rfl⟩
          have hYA : At WA wr.heap.size 114 [.int .i64 (P : Int), .int .i64 (Q : Int)] := by rw [eWA]; exact at_alloc wr _ _
          rw [← eWA] at hkA
          have a0 : WA.cell? ⟨g, o, none⟩ = some (.slice (some ⟨gd, 0, none⟩) (max LD B) c1) := by
            rw [(hAr.kept hkA (by simp)).cell, List.getElem?_set_self]
            exact (List.getElem?_eq_some_iff.1 ((hA.cell o).symm.trans H.out.c0)).1
          have a1 : WA.cell? ⟨wr.heap.size, 0, none⟩ = some (.int .i64 (P : Int)) := hYA.cell 0
          have a2 : WA.cell? ⟨wr.heap.size, 1, none⟩ = some (.int .i64 (Q : Int)) := hYA.cell 1
          have a3 : WA.cell? ⟨w.heap.size, 3, none⟩ = some (.string data) := (hPr.kept hkA (by simp)).cell 3
          have a4 : WA.cell? ⟨w.heap.size + 1, 0, none⟩ = some (.int .i64 (A : Int)) := (hXr.kept hkA (by simp)).cell 0
          have hOA : Own WA.drew 0 (.slice (some ⟨gd, 0, none⟩) (max LD B) c1) D := keptOwn hOD hkA.drew (by simp)
          have hdsz : (data.extract (P - A) data.size).size = data.size - (P - A) := by simp [ByteArray.size_extract]
          obtain ⟨W', hC, hOW, hKW⟩ := Own.copyS (p := P) (m := Q - P) (s := data.extract (P - A) data.size) hOA (by rw [hDl]; omega) (by rw [hdsz]; omega)
          have HC := hid hC
          have HOW := hid hOW
          have HKW := hid hKW
          have HKA := hid hkA
          have HKR := hid hKr
          have HD1 := hid hD1
          have HD2 := hid hD2
          have HDL := hid hDl
          have hq1 : A ≤ P := hq.1
          have hq2 : P < Q := hq.2.1
          have hq3 : Q ≤ B := hq.2.2
          have hPA : (P : Int) - (A : Int) = ((P - A : Nat) : Int) := by omega
          have hwr : IntKind.i64.wrap ((P - A : Nat) : Int) = ((P - A : Nat) : Int) := by rw [IntKind.wrap_i64]; omega
          have HGS : Hid (∀ q, q ∈ [gd] → q ≠ g ∧ q ≠ wr.heap.size ∧ q ≠ w.heap.size ∧ q ≠ w.heap.size + 1) := hid fun q hq' => by
            have h1 := hgdlt q hq'
            rw [List.mem_singleton] at hq'
            subst hq'
            have h2 := hKr2.size
            exact ⟨hgdg, by omega, h1.1, h1.2⟩
          clear hC hOW hKW hkA hKr hKr2 hD1 hD2 hDl hOD hOA hYA hXr hPr hAr hcG hdsz eP eQ hq eI hgdlt
          have hpq : ¬ (c1 < P) := by omega
          have hQc : Q ≤ c1 := by omega
          have hPQ : P ≤ Q := by omega
          have hpq2 : ¬ (c1 = P) := by omega
          have hx1 : max LD B ≤ 1500 := by omega
          have hPs : P - A ≤ data.size := by omega
          go_upto_region 7 with fail
          rw [← eWA]
          clear eWA z0 z1
          have hC := fun ty => HC.out ty (c1 - P)
          have hgs : ∀ q, q ∈ [gd] → q ≠ g ∧ q ≠ wr.heap.size ∧ q ≠ w.heap.size ∧ q ≠ w.heap.size + 1 := HGS.out
          have KA : Hid (WA.drew.cell? ⟨g, o, none⟩ = some (.slice (some ⟨gd, 0, none⟩) (max LD B) c1) ∧ WA.drew.cell? ⟨wr.heap.size, 0, none⟩ = some (.int .i64 (P : Int)) ∧ WA.drew.cell? ⟨wr.heap.size, 1, none⟩ = some (.int .i64 (Q : Int)) ∧ WA.drew.cell? ⟨w.heap.size, 3, none⟩ = some (.string data) ∧ WA.drew.cell? ⟨w.heap.size + 1, 0, none⟩ = some (.int .i64 (A : Int))) := hid ⟨a0, a1, a2, a3, a4⟩
          have KB : Hid (W'.cell? ⟨g, o, none⟩ = some (.slice (some ⟨gd, 0, none⟩) (max LD B) c1) ∧ W'.cell? ⟨wr.heap.size, 0, none⟩ = some (.int .i64 (P : Int)) ∧ W'.cell? ⟨wr.heap.size, 1, none⟩ = some (.int .i64 (Q : Int)) ∧ W'.cell? ⟨w.heap.size, 3, none⟩ = some (.string data) ∧ W'.cell? ⟨w.heap.size + 1, 0, none⟩ = some (.int .i64 (A : Int))) := hid ⟨keptCellQ HKW.out a0 (fun h => (hgs _ h).1 rfl), keptCellQ HKW.out a1 (fun h => (hgs _ h).2.1 rfl), keptCellQ HKW.out a2 (fun h => (hgs _ h).2.1 rfl), keptCellQ HKW.out a3 (fun h => (hgs _ h).2.2.1 rfl), keptCellQ HKW.out a4 (fun h => (hgs _ h).2.2.2 rfl)⟩
          clear hgs a0 a1 a2 a3 a4
          go_region_held3 (fun w' => w'.cell? ⟨g, o, none⟩ = some (.slice (some ⟨gd, 0, none⟩) (max LD B) c1) ∧ w'.cell? ⟨wr.heap.size, 0, none⟩ = some (.int .i64 (P : Int)) ∧ w'.cell? ⟨wr.heap.size, 1, none⟩ = some (.int .i64 (Q : Int)) ∧ w'.cell? ⟨w.heap.size, 3, none⟩ = some (.string data) ∧ w'.cell? ⟨w.heap.size + 1, 0, none⟩ = some (.int .i64 (A : Int))) (first | with_reducible exact KA.out | with_reducible exact KB.out) (fail)
          go_wp2_with fail
          go_roundw
          case rel =>
            have hl2 : (data.extract (P - A) data.size).size = data.size - (P - A) := by simp [ByteArray.size_extract]
            have hpl : P + (Q - P) ≤ D.length := by rw [HDL.out]; omega
            have hps : Q - P ≤ (data.extract (P - A) data.size).size := by rw [hl2]; omega
            have hin : ∀ t, inS (G.take (k + 1)) t ↔ inS (G.take k) t ∨ (P ≤ t ∧ t < Q) := fun t => by
              rw [hTK.out, ← EPQ.out, inS_app, inS_cons]
              exact ⟨fun h => h.elim .inl (fun h => h.elim .inr (fun h => absurd h (inS_nil t))), fun h => h.elim .inl (fun h => .inr (.inl h))⟩
            have hat := putL_at hpl hps
            refine ⟨k + 1, putL D P (Q - P) (data.extract (P - A) data.size), by omega, by go_num, ?_, fun t ht => ?_, fun t ht => ?_, HOW.out, ?_⟩
            · rw [putL_len hpl hps]; exact HDL.out
            · rw [hat]
              by_cases hpt : P ≤ t ∧ t < P + (Q - P)
              · rw [if_pos hpt, get_extract (by omega), show P - A + (t - P) = t - A by omega]
              · rw [if_neg hpt]
                rcases (hin t).1 ht with h1 | h1
                · exact HD1.out t h1
                · exact absurd ⟨h1.1, by omega⟩ hpt
            · rw [hat, if_neg (fun h => ht ((hin t).2 (.inr ⟨h.1, by omega⟩)))]
              exact HD2.out t (fun h => ht ((hin t).2 (.inl h)))
            · exact (HKR.out.trans ((HKA.out.wider (by simp)).drew)).trans HKW.out
          case measure => simp [intOf]; omega
        · have ek : k = n := by omega
          subst ek
          have hKr2 : Kept [gd] w2 wr := (HK4.out.wider (by simp)).trans hKr
          have hgdg : gd ≠ g := by
            rcases HGD.out with h1 | h1
            · exact H.out.sd gd h1
            · omega
          have hgdlt : ∀ q, q ∈ [gd] → q ≠ w.heap.size ∧ q ≠ w.heap.size + 1 := fun q hq' => by
            rw [List.mem_singleton] at hq'
            subst hq'
            rcases HGD.out with h1 | h1
            · have := (World.ownsRow.lt H.out.od q h1).2
              omega
            · omega
          have hAr : At wr g T (cur.set o (.slice (some ⟨gd, 0, none⟩) (max LD B) c1)) := HAc.out.kept hKr2 (by simpa using fun e => hgdg e.symm)
          have hPr := HPC.out.kept hKr2 (fun hm => (hgdlt _ hm).1 rfl)
          have hXr := HXC.out.kept hKr2 (fun hm => (hgdlt _ hm).2 rfl)
          have htgd : ∀ q, (Value.slice aT LT cT).ownBlock = some q → q < w.heap.size ∧ q ≠ g ∧ q ≠ gd := fun q hq => by
            have hq' : x.tv.ownBlock = some q := by rw [HET.out, ← HLT.out]; exact hq
            have h1 := H.out.ot.lt hq'
            refine ⟨h1, H.out.st q hq', ?_⟩
            rintro rfl
            rcases HGD.out with h2 | h2
            · exact H.out.dt q h2 hq'
            · omega
          have hOTr : OwnSp wr.drew (.slice aT LT cT) x.th := HOT.out.kept hKr2.drew (fun q hq => by simpa using (htgd q hq).2.2)
          have b1 : wr.cell? ⟨g, o + 1, none⟩ = some (.slice aT LT cT) := by
            rw [hAr.cell, List.getElem?_set_ne (by omega)]
            exact hcu1
          have y0 : wr.cell? ⟨w.heap.size + 1, 0, none⟩ = some (.int .i64 (A : Int)) := hXr.cell 0
          have y1 : wr.cell? ⟨w.heap.size + 1, 1, none⟩ = some (.int .i64 (B : Int)) := hXr.cell 1
          have hadd := spAdd_any (w := wr.drew) (b := g) (o := o + 1) (v := .slice aT LT cT) (l := x.th) (a := A) (z := B) b1 (hAr.free _) hOTr (fun q hq => (htgd q hq).2.1) HS.out HEL.out (by omega) (by omega)
          have hwl : w2.heap.size ≤ wr.heap.size := hKr2.size
          have hF : ∀ w5 v5, PtrPost wr.drew w5 g (o + 1) (Value.slice aT LT cT).ownBlock.toList v5 → w5.cell? ⟨w.heap.size, 2, none⟩ = some (.bool last) ∧ w5.cell? ⟨w.heap.size + 1, 1, none⟩ = some (.int .i64 (B : Int)) ∧ w5.cell? ⟨g, o + 2, none⟩ = some (.int .i64 (LN : Int)) ∧ w5.frozen? ⟨g, o + 2, none⟩ = false := fun w5 v5 q1 => by
            have hnot : ∀ q, w.heap.size ≤ q → q ∉ g :: (Value.slice aT LT cT).ownBlock.toList := fun q hq hm => by
              rw [List.mem_cons] at hm
              rcases hm with e | e
              · omega
              · have := (htgd q (by simpa using e)).1
                omega
            have hA5 := q1.row T _ (show At wr.drew g T _ from hAr)
            refine ⟨(At.kept (w := wr.drew) hPr q1.kept (hnot _ (Nat.le_refl _))).cell 2, (At.kept (w := wr.drew) hXr q1.kept (hnot _ (by omega))).cell 1, ?_, hA5.free _⟩
            rw [hA5.cell, List.getElem?_set_ne (by omega), List.getElem?_set_ne (by omega)]
            exact hcu2
          have HF := hid hF
          have HAr := hid hAr
          have HKr := hid hKr2
          have HOD := hid hOD
          have HD1 := hid hD1
          have HD2 := hid hD2
          have HDL2 := hid hDl
          clear hF hAr hPr hXr htgd hOTr hOD hKr hKr2 hD1 hD2 hDl hgdlt
          go_upto_region 9 with fail
          go_region_with (go_at_call 62; refine hadd.mono ?_; rintro e' w5 ⟨rfl, v5, l5, q1, q2, q3, q4, q5⟩; obtain ⟨s1, s2, s3, s4⟩ := HF.out _ _ q1; have Q1 := hid q1; have Q2 := hid q2; have Q3 := hid q3; have Q4 := hid q4; have Q5 := hid q5; clear q1 q2 q3 q4 q5)
          all_goals
            have hKall : Kept (g :: (x.blk false).toList) w wr := keptChain HKw.out HKr.out (fun q hq => by
              rw [List.mem_singleton] at hq
              subst hq
              rcases HGD.out with h1 | h1
              · left; rw [h1]; simp
              · right; omega)
            have htv : x.tv = .slice aT LT cT := by rw [HET.out, ← HLT.out]
            have hgd' : x.blk false = some gd ∨ w.heap.size ≤ gd := HGD.out.elim .inl (fun h => .inr (by omega))
            have q1' : PtrPost wr w5 g (o + 1) x.tv.ownBlock.toList v5 := by
              have h1 := Q1.out
              rw [htv]
              exact ⟨((Kept.refl _ wr).drew).trans h1.kept, h1.row⟩
            have q5' : ∀ q, v5.ownBlock = some q → x.tv.ownBlock = some q ∨ wr.heap.size ≤ q := by rw [htv]; exact Q5.out
            have hGk : G.take k = G := List.take_of_length_le (by rw [← EN.out]; exact Nat.le_refl _)
            have hGm : ∀ t, inS (G.take k) t ↔ A ≤ t ∧ t < B ∧ ¬ inS x.th t := fun t => by rw [hGk, EG.out]; exact gapsM_mem HS.out t
            have hAM : ∀ ln, ln = (if last = true then B else LN) → AddM x ⟨.slice (some ⟨gd, 0, none⟩) (max LD B) c1, D, v5, l5, ln⟩ A B data last := fun ln hln => by
              refine ⟨Q3.out, Q4.out, ?_, fun t ht => ?_, fun t h1 h2 h3 => HD1.out t ((hGm t).2 ⟨h1, h2, h3⟩), by rw [hln, ← HLN.out]⟩
              · show D.length = max x.data.length B
                rw [HDL2.out, ← HLD.out]
              · show D.getD t 0 = _
                rw [HD2.out t (fun h => ((hGm t).1 h).2.2 ht), ED0.out]
                have h5 := inS_lt HS.out ht
                rw [List.getD_eq_getElem?_getD, List.getElem?_append_left (by rw [HDL.out]; exact h5), ← List.getD_eq_getElem?_getD]
            cases last with
            | true =>
              go_wp2_with fail
              go_end0
              rw [← HP.out]
              refine ⟨rfl, _, tk_done (ln := B) H.out hA hKall HAr.out HOD.out rfl hgd' q1' Q2.out q5' (kept_setCell w5 g (o + 2) _) (fun h => h.setCell _), ?_⟩
              rw [← HEA.out, ← HEB.out]
              exact hAM B rfl
            | false =>
              go_wp2_with fail
              go_end0
              rw [← HP.out]
              refine ⟨rfl, _, tk_done (ln := LN) H.out hA hKall HAr.out HOD.out rfl hgd' q1' Q2.out q5' (Kept.refl _ w5) (fun h => ?_), ?_⟩
              · rw [set_sameV (by rw [← h.cell]; exact s3)]
                exact h
              · rw [← HEA.out, ← HEB.out]
                exact hAM LN rfl
end Go.Proofs.Ytbjgfoiikhbonaf
