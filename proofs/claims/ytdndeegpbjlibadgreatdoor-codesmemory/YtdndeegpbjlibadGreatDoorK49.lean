import Derived.Test.YtdndeegpbjlibadGreatDoorK48
namespace Go.Proofs.YtdndeegpbjlibadGreatDoor
open Go.ChangeShapes Go.WideShapes Go.ChangeAt Go.RowKit Go.Shelf

/-! THE LAW CodesMemory. -/

theorem packOne : strOfNums (packL [1]) = { data := #[128] } := by decide +kernel
theorem errOne : errOf [1] = 0 := by decide +kernel

set_option maxRecDepth 100000 in
theorem there_any (w : World) : Calls Tryz.prog 25 #[] w fun e w' => e = .returned (.bool true) ∧ Below w.heap.size w w' := by
  have hr : Rd .u8 (w.alloc (.cells #[.int .u8 1] 5)) (some ⟨w.heap.size, 0, none⟩) [1] := rd_block (zs := [1]) (heap_alloc_new w _)
  have hp := pack_ok [1] (some ⟨w.heap.size, 0, none⟩) 1 (w.alloc (.cells #[.int .u8 1] 5)) hr (fun j => by
    match j with
    | 0 => simp
    | j + 1 => simp) (by simp) errOne
  rw [packOne] at hp
  have hb0 : Below w.heap.size w (w.alloc (.cells #[.int .u8 1] 5)) := (Below.refl _ w).alloc (Nat.le_refl _) _
  clear hr
  go_enter Tryz.func25, Tryz.ntmps25
  go_wp2_with (go_at_call 46; refine hp.mono ?_; rintro e w1 ⟨rfl, hb1⟩)
  go_ret
  exact ⟨rfl, bthen hb0 hb1⟩

/-- What the law keeps hold of. -/
structure Mem (w wk : World) (gx gs gp : Nat) (zs ls : List Int) (ps : List (Int × Int)) : Prop where
  bel : Below w.heap.size w wk
  x : ArrAt .u8 5 wk gx (zs ++ [7, 7, 7])
  s : ArrAt .i64 3 wk gs (ls ++ [-7, -7, -7])
  p : PArr wk gp (ps ++ [(-7, 0), (-7, 0), (-7, 0)])
theorem Mem.step {w wk wk' : World} {gx gs gp : Nat} {zs ls : List Int} {ps : List (Int × Int)} (h : Mem w wk gx gs gp zs ls ps) (hb : Below wk.heap.size wk wk') : Mem w wk' gx gs gp zs ls ps :=
  ⟨bthen h.bel hb, h.x.below hb h.x.lt, h.s.below hb h.s.lt, h.p.below hb h.p.lt⟩
theorem Mem.rx {w wk : World} {gx gs gp : Nat} {zs ls : List Int} {ps : List (Int × Int)} (h : Mem w wk gx gs gp zs ls ps) : Rd .u8 wk (some ⟨gx, 0, none⟩) zs := ArrAt.rd (A := []) (o := 0) h.x rfl
theorem Mem.rs {w wk : World} {gx gs gp : Nat} {zs ls : List Int} {ps : List (Int × Int)} (h : Mem w wk gx gs gp zs ls ps) : Rd .i64 wk (some ⟨gs, 0, none⟩) ls := ArrAt.rd (A := []) (o := 0) h.s rfl
theorem Mem.rp {w wk : World} {gx gs gp : Nat} {zs ls : List Int} {ps : List (Int × Int)} (h : Mem w wk gx gs gp zs ls ps) : Pts wk (some ⟨gp, 0, none⟩) ps := by
  intro _
  refine ⟨gp, 0, rfl, fun i hi => ?_⟩
  have := h.p.cells (i := i) (by simp; omega)
  rw [show (ps ++ [((-7 : Int), (0 : Int)), (-7, 0), (-7, 0)]).getD i (0, 0) = ps.getD i (0, 0) by simp only [List.getD, List.getElem?_append_left hi]] at this
  rw [Nat.zero_add]
  exact this
/-- A call, then what came out of it is spoilt. -/
theorem spoil {w w1 w2 : World} (h1 : Below w.heap.size w w1) (h2 : Below w.heap.size w1 w2) : Below w.heap.size w w2 := h1.trans h2

set_option maxRecDepth 1000000 in
set_option maxHeartbeats 8000000 in
theorem mem_any (zs ls : List Int) (ps : List (Int × Int)) (order : Int) (a s p : Option Addr) (nb ns np cb cs cp : Nat) (w : World) (hz : zs.length = nb) (hlz : ls.length = ns) (hpz : ps.length = np)
    (ha : Rd .u8 w a zs) (hs : Rd .i64 w s ls) (hp : Pts w p ps) (an : a = none → nb = 0 ∧ cb = 0) (sn : s = none → ns = 0 ∧ cs = 0) (pn : p = none → np = 0 ∧ cp = 0)
    (hnb : nb ≤ 140737488355328) (hns : ns ≤ 17592186044416) (hnp : np ≤ 8796093022208) (hy : Bytes zs) (hT : Taps w) (hW : Wor w) (hC : Col w) :
    Calls Tryz.prog 3 #[.slice a nb cb, .slice s ns cs, .slice p np cp, .int .i64 order] w fun e w' => e = .returned (.bool true) ∧ Below w.heap.size w w' := by
  have HZ := hid hz
  have HLZ := hid hlz
  have HPZ := hid hpz
  have hWl := hW.lt
  clear hz hlz hpz
  go_enter Tryz.func3, Tryz.ntmps3
  go_wp2_with fail
  refine (roomyB zs 7 a cb nb w ha an HZ.out hnb).mono ?_
  rintro e w1 ⟨gx, rfl, hx1, -, hb1⟩
  go_wp2_with fail
  refine (roomyI ls (-7) s cs ns w1 (hs.below hb1) sn HLZ.out hns).mono ?_
  rintro e w2 ⟨gs, rfl, hs2, -, hb2⟩
  go_wp2_with fail
  have hb12 := bthen hb1 hb2
  refine (roomyP ps (-7) 0 p cp np w2 (hp.below hb12) pn HPZ.out hnp).mono ?_
  rintro e w3 ⟨gp, rfl, hp3, -, hb3⟩
  have hM : Mem w w3 gx gs gp zs ls ps := ⟨bthen hb12 hb3, (hx1.below hb2 hx1.lt).below hb3 (Nat.lt_of_lt_of_le hx1.lt hb2.size), hs2.below hb3 hs2.lt, hp3⟩
  clear hx1 hs2 hp3 hb1 hb2 hb12 hb3 an sn pn
  have hmz : nb ≤ maxLen := by unfold maxLen; omega
  have hmz3 : nb + 3 ≤ maxLen := by unfold maxLen; omega
  have hmn : ns ≤ maxLen := by unfold maxLen; omega
  have HSE : Hid (∀ a c w, Rd .u8 w a zs → _) := hid (fun a c w ha => seal_uni zs nb HZ.out a c w ha hmz hy)
  obtain ⟨E, eE⟩ : ∃ E, E = sealE zs := ⟨_, rfl⟩
  obtain ⟨SL, eSL⟩ : ∃ SL, SL = sealL zs := ⟨_, rfl⟩
  have hyS : Bytes SL := by rw [eSL]; exact sealL_bytes hy
  have HSB : Hid (SL.length ≤ 4096) := by rw [eSL]; exact sealL_length zs
  have hEE : (E == E) = true := by simp
  simp only [← eE, ← eSL] at HSE
  obtain ⟨nS, eN⟩ : ∃ nS, nS = SL.length := ⟨_, rfl⟩
  have HSL := hid eN.symm
  clear eE eSL eN
  go_wp2_with fail
  refine (HSE.out (some ⟨gx, 0, none⟩) (nb + 3) w3 hM.rx).mono ?_
  rintro e w4 ⟨vt, rfl, ho, hb⟩
  go_wp2_with fail
  refine (spoiltB 7 vt SL w3.heap.size w4 ho hb.size (by have := HSB.out; omega)).mono ?_
  rintro e w5 ⟨rfl, hsw5⟩
  have hMw5 := hM.step (spoil hb hsw5)
  clear hsw5 hb hM
  clear ho
  go_wp2_with fail
  refine (HSE.out a cb w5 (ha.below hMw5.bel)).mono ?_
  rintro e w6 ⟨vu, rfl, hou, hb⟩
  obtain ⟨au, cu, rfl, -, -, -⟩ := hou.shape
  have hru := hou.rd
  rw [HSL.out]
  clear hou
  have hMw6 := hMw5.step hb
  go_wp2_with fail
  refine (HSE.out (some ⟨gx, 0, none⟩) (nb + 3) w6 hMw6.rx).mono ?_
  rintro e w7 ⟨vv, rfl, hov, hb7⟩
  obtain ⟨av, cv, rfl, -, hcv, hmv⟩ := hov.shape
  have hrv := hov.rd
  rw [HSL.out] at hcv
  rw [HSL.out]
  have hru7 := hru.below hb7
  clear hov hru hb
  have hMw7 := hMw6.step hb7
  clear hb7 hMw6
  go_wp2_with fail
  refine (open_uni SL nS HSL.out av cv w7 hrv hcv hmv hyS).mono ?_
  rintro e w8 ⟨vo, bo, EO, L, rfl, ho, hlo, hb⟩
  go_wp2_with fail
  refine (spoiltB 7 vo L w7.heap.size w8 ho hb.size (by omega)).mono ?_
  rintro e w9 ⟨rfl, hs⟩
  have hsp := spoil hb hs
  have hMw9 := hMw7.step hsp
  have hruw9 := hru7.below hsp
  have hrvw9 := hrv.below hsp
  clear hru7 hrv
  clear hs hb hsp ho hlo hMw7
  go_wp2_with fail
  refine (cover_uni zs nb HZ.out (some ⟨gx, 0, none⟩) (nb + 3) w9 hMw9.rx hmz hy).mono ?_
  rintro e w10 ⟨vc, EC, L, rfl, ho, hlo, hb⟩
  go_wp2_with fail
  refine (spoiltB 7 vc L w9.heap.size w10 ho hb.size (by omega)).mono ?_
  rintro e w11 ⟨rfl, hs⟩
  have hsp := spoil hb hs
  have hMw11 := hMw9.step hsp
  have hruw11 := hruw9.below hsp
  have hrvw11 := hrvw9.below hsp
  clear hruw9 hrvw9
  clear hs hb hsp ho hlo hMw9
  go_wp2_with fail
  refine (encode_uni zs nb HZ.out (some ⟨gx, 0, none⟩) (nb + 3) w11 hMw11.rx hmz hy (hT.below hMw11.bel)).mono ?_
  rintro e w12 ⟨vd, ED, L, rfl, ho, hlo, hb⟩
  go_wp2_with fail
  refine (spoiltB 7 vd L w11.heap.size w12 ho hb.size (by omega)).mono ?_
  rintro e w13 ⟨rfl, hs⟩
  have hsp := spoil hb hs
  have hMw13 := hMw11.step hsp
  have hruw13 := hruw11.below hsp
  have hrvw13 := hrvw11.below hsp
  clear hruw11 hrvw11
  clear hs hb hsp ho hlo hMw11
  go_wp2_with fail
  refine (decode_uniC ls ns HLZ.out (some ⟨gs, 0, none⟩) (ns + 3) w13 hMw13.rs (by omega) hmn (hT.below hMw13.bel)).mono ?_
  rintro e w14 ⟨vg, SG, EG, L, rfl, ho, hlo, hb⟩
  go_wp2_with fail
  refine (spoiltB 7 vg L w13.heap.size w14 ho hb.size (by omega)).mono ?_
  rintro e w15 ⟨rfl, hs⟩
  have hsp := spoil hb hs
  have hMw15 := hMw13.step hsp
  have hruw15 := hruw13.below hsp
  have hrvw15 := hrvw13.below hsp
  clear hruw13 hrvw13
  clear hs hb hsp ho hlo hMw13
  go_wp2_with fail
  refine (turn_uniM zs nb HZ.out (some ⟨gx, 0, none⟩) (nb + 3) w15 hMw15.rx hmz hy).mono ?_
  rintro e w16 ⟨vh, EH, L, rfl, ho, hlo, hb⟩
  go_wp2_with fail
  refine (spoiltB 7 vh L w15.heap.size w16 ho hb.size (by omega)).mono ?_
  rintro e w17 ⟨rfl, hs⟩
  have hsp := spoil hb hs
  have hMw17 := hMw15.step hsp
  have hruw17 := hruw15.below hsp
  have hrvw17 := hrvw15.below hsp
  clear hruw15 hrvw15
  clear hs hb hsp ho hlo hMw15
  go_wp2_with fail
  refine (decode_uniP ls ns HLZ.out (some ⟨gs, 0, none⟩) (ns + 3) w17 hMw17.rs (by omega) hmn (hW.below hMw17.bel hWl)).mono ?_
  rintro e w18 ⟨vi, EI, L, rfl, ho, hlo, hb⟩
  go_wp2_with fail
  refine (spoiltB 7 vi L w17.heap.size w18 ho hb.size (by omega)).mono ?_
  rintro e w19 ⟨rfl, hs⟩
  have hsp := spoil hb hs
  have hMw19 := hMw17.step hsp
  have hruw19 := hruw17.below hsp
  have hrvw19 := hrvw17.below hsp
  clear hruw17 hrvw17
  clear hs hb hsp ho hlo hMw17
  go_wp2_with fail
  refine (pick_uni zs nb HZ.out (some ⟨gx, 0, none⟩) (nb + 3) w19 hMw19.rx hmz (hC.later hMw19.bel)).mono ?_
  rintro e w20 ⟨vj, EJ, L, rfl, ho, hlo, hb⟩
  go_wp2_with fail
  refine (spoiltB 7 vj L w19.heap.size w20 ho hb.size (by omega)).mono ?_
  rintro e w21 ⟨rfl, hs⟩
  have hsp := spoil hb hs
  have hMw21 := hMw19.step hsp
  have hruw21 := hruw19.below hsp
  have hrvw21 := hrvw19.below hsp
  clear hruw19 hrvw19
  clear hs hb hsp ho hlo hMw19
  go_wp2_with fail
  refine (send_uni zs nb HZ.out order (some ⟨gx, 0, none⟩) (nb + 3) w21 hMw21.rx (by omega) hmz3 hy).mono ?_
  rintro e w22 ⟨vk, EK, mk, L, rfl, ho, hlo, hb⟩
  go_wp2_with fail
  refine (spoiltP (-7) 0 vk mk L w21.heap.size w22 ho hb.size (by omega)).mono ?_
  rintro e w23 ⟨rfl, hs⟩
  have hsp := spoil hb hs
  have hMw23 := hMw21.step hsp
  have hruw23 := hruw21.below hsp
  have hrvw23 := hrvw21.below hsp
  clear hruw21 hrvw21
  clear hs hb hsp ho hlo hMw21
  go_wp2_with fail
  refine (hear_uni ps np HPZ.out order (some ⟨gp, 0, none⟩) (np + 3) w23 hMw23.rp hnp).mono ?_
  rintro e w24 ⟨vl, EL, L, rfl, ho, hlo, hb⟩
  go_wp2_with fail
  refine (spoiltI (-7) vl L w23.heap.size w24 ho hb.size (by omega)).mono ?_
  rintro e w25 ⟨rfl, hs⟩
  have hsp := spoil hb hs
  have hMw25 := hMw23.step hsp
  have hruw25 := hruw23.below hsp
  have hrvw25 := hrvw23.below hsp
  clear hruw23 hrvw23
  clear hs hb hsp ho hlo hMw23
  have HNE : Hid (∀ a c w, Pts w a ps → _) := hid (fun a c w ha => near_uni ps np HPZ.out order a c w ha hnp)
  obtain ⟨F, eF⟩ : ∃ F, F = chErr ps order := ⟨_, rfl⟩
  obtain ⟨NL, eNL⟩ : ∃ NL, NL = nearL ps order := ⟨_, rfl⟩
  have hFF : (F == F) = true := by simp
  simp only [← eF, ← eNL] at HNE
  obtain ⟨nN, enN⟩ : ∃ nN, nN = NL.length := ⟨_, rfl⟩
  have HNL := hid enN.symm
  clear eF eNL enN
  go_wp2_with fail
  refine (HNE.out (some ⟨gp, 0, none⟩) (np + 3) w25 hMw25.rp).mono ?_
  rintro e w26 ⟨vm, rfl, ho, hlo, hb⟩
  go_wp2_with fail
  refine (spoiltB 7 vm NL w25.heap.size w26 ho hb.size (by omega)).mono ?_
  rintro e w27 ⟨rfl, hs⟩
  have hsp := spoil hb hs
  have hMw27 := hMw25.step hsp
  have hruw27 := hruw25.below hsp
  have hrvw27 := hrvw25.below hsp
  clear hruw25 hrvw25
  clear hs hb hsp ho hlo hMw25
  go_wp2_with fail
  refine (HNE.out p cp w27 (hp.below hMw27.bel)).mono ?_
  rintro e w28 ⟨vy, rfl, hoy, hly, hby⟩
  obtain ⟨ay, cy, rfl, -, -, -⟩ := hoy.shape
  have hry := hoy.rd
  rw [HNL.out]
  have hMw28 := hMw27.step hby
  have hruw28 := hruw27.below hby
  have hrvw28 := hrvw27.below hby
  clear hruw27 hrvw27
  clear hoy hby hMw27
  go_wp2_with fail
  refine (HNE.out (some ⟨gp, 0, none⟩) (np + 3) w28 hMw28.rp).mono ?_
  rintro e w29 ⟨vw, rfl, how, hlw, hbw⟩
  obtain ⟨aw, cw, rfl, -, -, -⟩ := how.shape
  have hrw := how.rd
  rw [HNL.out]
  have hry' := hry.below hbw
  have hMw29 := hMw28.step hbw
  have hruw29 := hruw28.below hbw
  have hrvw29 := hrvw28.below hbw
  clear hruw28 hrvw28
  clear how hbw hry hMw28
  have hsb := same_bits SL SL au av cu cv w29 hruw29 hrvw29 (by have := HSB.out; unfold maxLen; omega) (by have := HSB.out; unfold maxLen; omega)
  rw [decide_eq_true rfl, HSL.out] at hsb
  go_wp2_with fail
  refine hsb.mono ?_
  rintro e wA ⟨rfl, hbA⟩
  have hsc := same_bits NL NL ay aw cy cw wA (hry'.below hbA) (hrw.below hbA) (by unfold maxLen; omega) (by unfold maxLen; omega)
  rw [decide_eq_true rfl, HNL.out] at hsc
  have hMA := hMw29.step hbA
  clear hsb hry' hrw hruw29 hrvw29
  go_wp2_with fail
  refine hsc.mono ?_
  rintro e wB ⟨rfl, hbB⟩
  have hMB := hMA.step hbB
  clear hsc hMA hbA hbB
  go_wp2_with fail
  refine (keptB zs 7 gx nb a cb wB HZ.out hnb hMB.x (ha.below hMB.bel)).mono ?_
  rintro e wC ⟨rfl, hbC⟩
  have hMC := hMB.step hbC
  go_wp2_with fail
  refine (keptI ls (-7) gs ns s cs wC HLZ.out hns hMC.s (hs.below hMC.bel)).mono ?_
  rintro e wD ⟨rfl, hbD⟩
  have hMD := hMC.step hbD
  go_wp2_with fail
  refine (keptP ps (-7) 0 gp np p cp wD HPZ.out hnp hMD.p (hp.below hMD.bel)).mono ?_
  rintro e wE ⟨rfl, hbE⟩
  have hME := hMD.step hbE
  go_wp2_with fail
  refine (there_any wE).mono ?_
  rintro e wF ⟨rfl, hbF⟩
  have hfin := bthen hME.bel hbF
  clear hMB hMC hMD hME hbC hbD hbE hbF
  go_wp2
  go_ret
  exact ⟨rfl, hfin⟩
end Go.Proofs.YtdndeegpbjlibadGreatDoor
