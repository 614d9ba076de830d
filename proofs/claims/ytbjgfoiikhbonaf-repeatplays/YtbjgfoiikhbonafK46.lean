import Derived.Test.YtbjgfoiikhbonafK24
import Derived.Test.YtbjgfoiikhbonafK45
set_option linter.unusedVariables false
set_option linter.unusedSimpArgs false
namespace Go.Proofs.Ytbjgfoiikhbonaf
open Go.ChangeShapes Go.WideShapes Go.ChangeAt Go.RowKit
theorem RIn.setFst {w : World} {B g : Nat} {vl : Value} {win fst : Nat} {ts : List TakenM} (h : RIn w B g vl win fst ts) (f : Nat) : RIn (w.setCell ⟨g, 1, none⟩ (.int .i64 (f : Int))) B g vl win f ts := by
  have hA : At w g 57 [.int .i64 (win : Int), .int .i64 (fst : Int), vl] := h.box
  have hk : Kept [g] w (w.setCell ⟨g, 1, none⟩ (.int .i64 (f : Int))) := (Kept.refl _ w).setCell (by simp) _
  exact ⟨hA.setCell (o := 1) (.int .i64 (f : Int)), keptRow h.own hk (fun x hx => by simpa using fun e => h.ne (by rw [hx, e])), h.ne, h.le, h.ok⟩
set_option linter.unusedVariables false in
set_option maxRecDepth 1000000 in
set_option maxHeartbeats 4000000 in
theorem rtell_tail {wx : World} {B g : Nat} {vl : Value} {win fst : Nat} {ts : List TakenM} {Q : Ending → World → Prop} (h : RIn wx B g vl win fst ts) (hl : ts.length ≤ manyU) (hf : fst ≤ manyU) (hh : hiL 0 ts ≤ fst + 32)
    (hQ : ∀ k a c w', (∀ j, j < k → (inOf win fst ts).whole (fst + j) = true) → (inOf win fst ts).whole (fst + k) = false → RIn w' B g vl win (fst + k) ts → w'.ownsRow wx.heap.size 9 1 (.slice a k c) k ((toldR win fst ts k).map Value.string) → Kept [g] wx w' → Q (.returned (.tuple #[.slice a k c, .int .i64 0])) w') (u1 u2 u3 u4 u5 u6 u7 u8 u9 u10 u11 u12 u13 u14 u15 u16 u17 u18 u19 u20 u21 u22 u23 u24 u25 u26 u27 u28 u29 u30 u31 u32 u33 u34 u35 u36 u37 u38 u39 u40 u41 u42 u43 u44 u45 u46 u47 u48 u49 u50 u51 u52 u53 u54 u55 u56 u57 u58 u59 u60 u61 u62 u63 u64 u65 u66 u67 u68 u69 u70 u71 u72 u73 u74 u75 u76 u77 u78 u79 u80 u81 u82 u83 u84 u85 u86 u87 u88 u89 u90 u91 u92 u93 u94 u95 u96 u97 u98 u99 u100 u101 u102 u103 u104 u105 u106 u107 u108 u109 u110 u111 u112 u113 u114 u115 u116 u117 u118 u119 u120 u121 u122 u123 u124 u125 u126 u127 u128 u129 u130 u131 u132 u133 u134 u135 u136 u137 u138 u139 u140 u141 u142 u143 u144 u145 u146 u147 u148 u149 u150 u151 u152 u153 u154 u155 u156 u157 u158 u159 u160 u161 u162 u163 u164 u165 : Value) :
    Code.wp Try.prog (tailAt 8 (Try.f19.body.getD .skip)) (bodyPost Try.prog Try.f19 Q) ⟨#[.pointer (some ⟨g, 0, none⟩), u1, u2, u3, u4, u5, u6, u7, u8, u9, u10, u11, u12, u13, u14, u15, u16, u17, u18, u19, u20, u21, u22, u23, u24, u25, u26, u27, u28, u29, u30, u31, u32, u33, u34, u35, u36, u37, u38, u39, u40, u41, u42, u43, u44, u45, u46, u47, u48, u49, u50, u51, u52, u53, u54, u55, u56, u57, u58, u59, u60, u61, u62, u63, u64, u65, u66, u67, u68, u69, u70, u71, u72, u73, u74, u75, u76, u77, u78, u79, u80, u81, u82, u83, u84, u85, u86, u87, u88, u89, u90, u91, u92, u93, u94, u95, u96, u97, u98, u99, u100, u101, u102, u103, u104, u105, u106, u107, u108, u109, u110, u111, u112, u113, u114, u115, u116, u117, u118, u119, u120, u121, u122, u123, u124, u125, u126, u127, u128, u129, u130, u131, u132, u133, u134, u135, u136, u137, u138, u139, u140, u141, u142, u143, u144, u145, u146, u147, u148, u149, u150, u151, u152, u153, u154, u155, u156, u157, u158, u159, u160, u161, u162, u163, u164, u165], []⟩ wx := by
  conv => arg 2; whnf
  have hf2 : fst ≤ 70368744177664 := hf
  have H := hid h
  have HL := hid hl
  have HQ := hid hQ
  have HH := hid hh
  have HOK := hid h.ok
  have hgl := h.lt
  obtain ⟨i0, hi, hz0, hz1, hz2⟩ := info_parts Try.infoTx
  have HI := hid hi
  have HZ0 := hid hz0
  have HZ1 := hid hz1
  have HZ2 := hid hz2
  clear h hl hQ hf hi hz0 hz1 hz2 hh
  go_wp2_with fail
  go_loopw [10] (fun vo wr => ∃ (k c : Nat) (a : Option Addr), k ≤ 32 ∧ vo = .slice a k c ∧ wr.cell? ⟨g, 1, none⟩ = some (.int .i64 ((fst + k : Nat) : Int)) ∧ Hid ((∀ j, j < k → (inOf win fst ts).whole (fst + j) = true) ∧ RIn wr B g vl win (fst + k) ts ∧ wr.ownsRow wx.heap.size 9 1 (.slice a k c) k ((toldR win fst ts k).map Value.string) ∧ Kept [g] wx wr)) (fun vo wr => 33 - (match vo with | .slice _ k _ => k | _ => 0))
  case atStart => exact ⟨0, 0, none, by omega, rfl, H.out.cells.2.1, hid ⟨fun j hj => absurd hj (by omega), H.out, World.ownsRow_nil _ _ _ _, Kept.refl _ _⟩⟩
  case round =>
    obtain ⟨k, co, ao, hk, rfl, c1, HS⟩ := hrel
    obtain ⟨wo, ewo⟩ : ∃ wo, wo = wr := ⟨_, rfl⟩
    subst ewo
    obtain ⟨U, hU⟩ : ∃ U, U = fst + k := ⟨_, rfl⟩
    rw [← hU] at c1
    have HUE := hid hU
    have hU2 : U ≤ 70368744177664 + 64 := by omega
    have HU2 : Hid (U ≤ manyU + 64) := by unfold manyU; exact hU2
    have hle := rlength_any U HS.out.2.1 HL.out HU2.out
    cases hN : lenL U none ts with
    | none =>
      rw [hN] at hle
      have HN := hid hN
      have hle : Calls Try.prog 45 #[.pointer (some ⟨g, 0, none⟩), .int .i64 (U : Int)] wo fun e w' => e = .returned (.tuple #[.int .i64 (-1), .int .i64 ((finL U 0 ts : Nat) : Int)]) ∧ Below wo.heap.size wo w' := hle
      generalize finL U 0 ts = FN at hle
      clear hN hU
      go_wp2_with (go_at_call 45; refine hle.mono ?_; rintro e w3 ⟨rfl, hb3⟩; have HB3 := hid hb3; clear hb3)
      have hk3 : Kept [g] wo w3 := (Kept.of_below (S := []) HB3.out).wider (by simp)
      exact HQ.out k ao co w3 HS.out.1 (by rw [← HUE.out]; exact wholeR_none HN.out) (HS.out.2.1.below HB3.out) (keptRow HS.out.2.2.1 (Kept.of_below (S := []) HB3.out) (by simp)) (HS.out.2.2.2.trans hk3)
    | some n =>
      rw [hN] at hle
      have HN := hid hN
      have hle : Calls Try.prog 45 #[.pointer (some ⟨g, 0, none⟩), .int .i64 (U : Int)] wo fun e w' => e = .returned (.tuple #[.int .i64 (n : Int), .int .i64 ((finL U 0 ts : Nat) : Int)]) ∧ Below wo.heap.size wo w' := hle
      obtain ⟨hn1, hn2⟩ := lenL_lt hN HOK.out
      have hk32 : k < 32 := by have := HH.out; have := HUE.out; omega
      generalize finL U 0 ts = FN at hle
      clear hN hU hn1
      go_wp2_with (go_at_call 45; refine hle.mono ?_; rintro e w3 ⟨rfl, hb3⟩; have HB3 := hid hb3; clear hb3)
      have HR3 := hid (HS.out.2.1.below HB3.out)
      have HW3 := hid (keptRow HS.out.2.2.1 (Kept.of_below (S := []) HB3.out) (by simp))
      have HK3 : Hid (Kept [g] wx w3) := HS.out.2.2.2.trans ((Kept.of_below (S := []) HB3.out).wider (by simp))
      have hgl3 : g < w3.heap.size := HR3.out.lt
      have HSZ3 : Hid (wx.heap.size ≤ w3.heap.size) := HK3.out.size
      have c3 := (HR3.out.cells).2.1
      rw [← HUE.out] at c3
      clear hle c1
      go_loopw [13, 14] (fun vb vi wr => ∃ (i cb : Nat) (ab : Option Addr), i ≤ n ∧ vi = .int .i64 (i : Int) ∧ vb = .slice ab i cb ∧ Hid ((∀ j, j < i → (atL U j ts).isSome = true) ∧ Own wr w3.heap.size (.slice ab i cb) ((List.range i).map fun j => byteO (atL U j ts)) ∧ Below w3.heap.size w3 wr)) (fun _ vi _ => n - (intOf vi).toNat)
      case atStart => exact ⟨0, 0, none, Nat.zero_le _, rfl, rfl, hid ⟨fun j hj => absurd hj (by omega), Own.nil _ _, Below.refl _ _⟩⟩
      case round =>
        obtain ⟨i, cb, ab, hi, rfl, rfl, HT⟩ := hrel
        obtain ⟨wi, ewi⟩ : ∃ wi, wi = wr := ⟨_, rfl⟩
        subst ewi
        have HRi := hid (HR3.out.kept (S := []) (Kept.of_below HT.out.2.2) (by simp) (by simp))
        have c4 := (HRi.out.cells).2.1
        rw [← HUE.out] at c4
        by_cases hin : i < n
        · have hat := rat_any U i HRi.out HL.out HU2.out (by omega)
          cases hA : atL U i ts with
          | none =>
            rw [hA] at hat
            have hat : Calls Try.prog 46 #[.pointer (some ⟨g, 0, none⟩), .int .i64 (U : Int), .int .i64 (i : Int)] wi fun e w' => e = .returned (.tuple #[.int .u8 0, .bool false]) ∧ Below wi.heap.size wi w' := hat
            have HA := hid hA
            clear hA
            go_wp2_with (go_at_call 46; refine hat.mono ?_; rintro e w5 ⟨rfl, hb5⟩; have HB5 := hid hb5; clear hb5)
            have hb35 : Below w3.heap.size w3 w5 := HT.out.2.2.trans (HB5.out.mono HT.out.2.2.size)
            exact HQ.out k ao co w5 HS.out.1 (by rw [← HUE.out]; exact wholeR_gap HN.out hin HA.out) (HR3.out.below hb35) (keptRow HW3.out (Kept.of_below (S := []) hb35) (by simp)) (HK3.out.trans ((Kept.of_below (S := []) hb35).wider (by simp)))
          | some y =>
            rw [hA] at hat
            have hat : Calls Try.prog 46 #[.pointer (some ⟨g, 0, none⟩), .int .i64 (U : Int), .int .i64 (i : Int)] wi fun e w' => e = .returned (.tuple #[.int .u8 (y.toNat : Int), .bool true]) ∧ Below wi.heap.size wi w' := hat
            have HA := hid hA
            have HLL : Hid (((List.range i).map fun j => byteO (atL U j ts)).length < 70368744177664) := hid (by rw [List.length_map, List.length_range]; omega)
            clear hA
            go_wp2_with (first
              | (go_at_call 46; refine hat.mono ?_; rintro e w5 ⟨rfl, hb5⟩; have hO5 := HT.out.2.1.below hb5; have hB5 := HT.out.2.2.trans (hb5.mono HT.out.2.2.size); have HO5 := hid hO5; have HB5 := hid hB5; clear hb5 hO5 hB5)
              | (at_builtin; refine wpList_push w3.heap.size w3 (y.toNat : Int) HO5.out rfl _ _ rfl rfl rfl HLL.out HB5.out HB5.out.size ?_; intro v6 w6 ho6 hb6; obtain ⟨a6, c6, ev6, -, -, -⟩ := Own.shape ho6; subst ev6; have HO6 := hid ho6; have HB6 := hid hb6; clear ho6 hb6))
            refine ⟨⟨i + 1, c6, a6, by omega, by go_num, by simp, hid ⟨fun j hj => ?_, ?_, HB6.out⟩⟩, by simp [intOf]; omega⟩
            · by_cases ej : j = i
              · subst ej; rw [HA.out]; rfl
              · exact HT.out.1 j (by omega)
            · have h9 := HO6.out
              rw [List.length_append, List.length_map, List.length_range] at h9
              rw [List.range_succ, List.map_append]
              have e9 : (List.map (fun j => byteO (atL U j ts)) [i]) = [(y.toNat : Int)] := by simp [HA.out, byteO]
              rw [e9]
              exact h9
        · obtain rfl : i = n := by omega
          have hRd := HT.out.2.1.rd
          have hcv := conv_rd hRd cb
          rw [List.length_map, List.length_range] at hcv
          have HTX := hid (textR_eq (win := win) (fst := fst) HN.out)
          obtain ⟨S, eS⟩ : ∃ S, S = strOfNums ((List.range i).map fun j => byteO (atL U j ts)) := ⟨_, rfl⟩
          rw [← eS] at hcv HTX
          have HWi := hid (keptRow HW3.out (Kept.of_below (S := []) HT.out.2.2) (by simp))
          have HKi : Hid (Kept [g] wx wi) := HK3.out.trans ((Kept.of_below (S := []) HT.out.2.2).wider (by simp))
          have HLM : Hid (k + 1 ≤ maxLen) := by exact (show k + 1 ≤ maxLen by unfold maxLen; omega)
          have HLK : Hid ((k + 1) * 16 ≤ 140737488355328) := by exact (show (k + 1) * 16 ≤ 140737488355328 by omega)
          have HSZi := hid HKi.out.size
          have HPP : Hid (∀ v7 w7, w7.ownsRow wx.heap.size 9 1 v7 (k + 1) ((toldR win fst ts k).map Value.string ++ [.string S]) → (wi.alloc (.cells #[.string S] 9)).grownBy w7 (Value.slice ao k co).ownBlock → ∃ a7 c7, v7 = .slice a7 (k + 1) c7 ∧ w7.cell? ⟨g, 1, none⟩ = some (.int .i64 (U : Int)) ∧ w7.frozen? ⟨g, 1, none⟩ = false ∧ RIn (w7.setCell ⟨g, 1, none⟩ (.int .i64 ((U : Int) + 1))) B g vl win (fst + (k + 1)) ts ∧ (w7.setCell ⟨g, 1, none⟩ (.int .i64 ((U : Int) + 1))).ownsRow wx.heap.size 9 1 (.slice a7 (k + 1) c7) (k + 1) ((toldR win fst ts (k + 1)).map Value.string) ∧ Kept [g] wx (w7.setCell ⟨g, 1, none⟩ (.int .i64 ((U : Int) + 1)))) := fun v7 w7 ho7 hg7 => by
            obtain ⟨a7, c7, rfl, -, -, -⟩ := row_shape ho7
            have hk7 : Kept (Value.slice ao k co).ownBlock.toList wi w7 := ((Kept.refl _ wi).alloc _).trans (Kept.grownR hg7)
            have hbl : ∀ x ∈ (Value.slice ao k co).ownBlock.toList, wx.heap.size ≤ x := fun x hx => (World.ownsRow.lt HWi.out x (by simpa using hx)).1
            have hvl : ∀ x, vl.ownBlock = some x → x < wx.heap.size := fun x hx => (World.ownsRow.lt H.out.own x hx).2
            have hR7 := HRi.out.kept hk7 (fun hx => by have := hbl g hx; omega) (fun x hx hm => by have h1 := hbl x hm; have h2 := hvl x hx; omega)
            have eU : (U : Int) + 1 = ((fst + (k + 1) : Nat) : Int) := by have := HUE.out; omega
            have hA7 : At w7 g 57 [.int .i64 (win : Int), .int .i64 ((fst + k : Nat) : Int), vl] := hR7.box
            have hc7 := hA7.cell 1
            rw [← HUE.out] at hc7
            refine ⟨a7, c7, rfl, hc7, hA7.free 1, ?_, ?_, ?_⟩
            · rw [eU]; exact hR7.setFst (fst + (k + 1))
            · rw [toldR_succ, List.map_append, ← HUE.out, HTX.out]
              refine keptRow ho7 ((Kept.refl [g] w7).setCell (by simp) _) (fun x hx => ?_)
              have := (World.ownsRow.lt ho7 x hx).1
              simp
              omega
            · exact (keptChain HKi.out hk7 (fun x hx => .inr (hbl x hx))).setCell (by simp) _
          have HALL : Hid (∀ j, j < k + 1 → (inOf win fst ts).whole (fst + j) = true) := fun j hj => by
            by_cases ej : j = k
            · rw [ej, ← HUE.out]
              exact wholeR_all HN.out HT.out.1
            · exact HS.out.1 j (by omega)
          clear hRd eS
          go_wp2_with (at_builtin; refine wpList_pushR wx.heap.size wi.heap.size Try.underlying67 HI.out HZ0.out HZ1.out HZ2.out rfl (by decide) (World.ownsRow.alloc HWi.out _) rfl _ _ rfl rfl rfl (news := [.string S]) rfl (fun j z hj => by rw [cell_of_row _ _ _ _ _ _ (heap_alloc_new wi _)]; simpa using hj) (by intro z hz; simp at hz; subst hz; rfl) HLM.out HLK.out (by have := HSZi.out; simp; omega) ?_; intro v7 w7 ho7 hg7 hl7; obtain ⟨a7, c7, rfl, k7, f7, hp7⟩ := HPP.out _ _ ho7 hg7; have HP7 := hid hp7; clear ho7 hg7 hl7 hp7)
          refine ⟨⟨k + 1, c7, a7, by omega, rfl, ?_, hid ⟨HALL.out, HP7.out.1, HP7.out.2.1, HP7.out.2.2⟩⟩, by simp; omega⟩
          exact (HP7.out.1.cells).2.1
end Go.Proofs.Ytbjgfoiikhbonaf
