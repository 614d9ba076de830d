import Derived.Test.YtbjgfoiikhbonafK39
set_option linter.unusedVariables false
set_option linter.unusedSimpArgs false
namespace Go.Proofs.Ytbjgfoiikhbonaf
open Go.ChangeShapes Go.WideShapes Go.ChangeAt Go.RowKit
theorem Try.infoUo : (Try.prog.info? 110).map (fun i => (i.zero, i.size, i.bytes)) = some (some (.agg #[.string { data := #[] }, .slice none 0 0, .bool false]), 3, 48) := by kernel_rfl
def uoNew (s : ByteArray) (mv : Value) : UoP := ⟨s, mv, List.replicate s.size 110, false⟩
/-- How many units, at the most, the reference holds. -/
def manyO : Nat := 2000000000000
def OSubPost (w : World) (b win bg : Nat) (ua : Option Addr) (us : List UoP) (s : ByteArray) : Ending → World → Prop := fun e w' => e = .returned (.int .i64 0) ∧ Kept (outF b ua us) w w' ∧ ∃ ua' c' mv, POut w' b win bg ua' c' (us ++ [uoNew s mv]) ∧ (∀ y, ua' = some y → ua = some y ∨ w.heap.size ≤ y.block) ∧ ∀ g, mv.ownBlock = some g → w.heap.size ≤ g
set_option maxRecDepth 100000 in
set_option maxHeartbeats 1000000 in
theorem osubmit_good {w : World} {b win bg : Nat} {ua : Option Addr} {c : Nat} {us : List UoP} {s : ByteArray} (h : POut w b win bg ua c us) (hl : us.length ≤ manyO) (h0 : 0 < s.size) (h1 : s.size ≤ 1500) (h2 : waitO us < 64) :
    Calls Try.prog 15 #[.pointer (some ⟨b, 0, none⟩), .string s] w (OSubPost w b win bg ua us s) := by
  have hl' : us.length ≤ 2000000000000 := hl
  have hwt := owaiting_any h (by omega)
  have hbl := h.hd.lt
  obtain ⟨i0, hi0, hz0, hz1, hz2⟩ := info_parts Try.infoUo
  have hs0 : s.toList.isEmpty = false := emp_falseR (by omega)
  have hadr : ∀ y, ua = some y → ∃ g, y = ⟨g, 0, none⟩ := fun y hy => by obtain ⟨g, e, _⟩ := h.addr hy; exact ⟨g, e⟩
  have hF : ∀ (wq : World) (am : Option Addr) (cm : Nat), Below w.heap.size w wq → Own wq w.heap.size (.slice am s.size cm) (List.replicate s.size 110) →
      wq.cell? ⟨b, 2, none⟩ = some (.slice ua us.length c) ∧ ((wq.alloc (.cells #[.string s, .slice am s.size cm, .bool false] 110)).ownsRow 0 110 3 (.slice ua us.length c) us.length (cellsUo us)) ∧
      ∀ v' w', w'.ownsRow 0 110 3 v' (us.length + 1) (cellsUo us ++ (uoNew s (.slice am s.size cm)).cells) → (wq.alloc (.cells #[.string s, .slice am s.size cm, .bool false] 110)).grownBy w' (Value.slice ua us.length c).ownBlock → (v'.ownBlock = (Value.slice ua us.length c).ownBlock ∨ v'.ownBlock = some (wq.alloc (.cells #[.string s, .slice am s.size cm, .bool false] 110)).heap.size) →
      ∃ ua' c', v' = .slice ua' (us.length + 1) c' ∧ w'.cell? ⟨b, 2, none⟩ = some (.slice ua us.length c) ∧ w'.frozen? ⟨b, 2, none⟩ = false ∧ OSubPost w b win bg ua us s (.returned (.int .i64 0)) (w'.setCell ⟨b, 2, none⟩ (.slice ua' (us.length + 1) c')) := fun wq am cm hbq hom => by
    have hkq : Kept [] w wq := Kept.of_below hbq
    have hq := h.kept hkq (by simp)
    refine ⟨hq.hd.cell 2, World.ownsRow.alloc hq.own _, fun v' w' g1 g2 g3 => ?_⟩
    obtain ⟨ua', c', rfl, -, -, hx⟩ := row_shape g1
    have hob : (Value.slice ua us.length c).ownBlock.toList = (ua.map (·.block)).toList := by
      cases ua with
      | none => rfl
      | some y => rfl
    have hk : Kept (ua.map (·.block)).toList wq w' := by
      rw [← hob]
      exact ((Kept.refl _ wq).alloc _).trans (Kept.grownR g2)
    have hbS : b ∉ (ua.map (·.block)).toList := by
      cases ua with
      | none => simp
      | some y => simpa using fun e => h.nb y rfl e.symm
    have hsz := hbq.size
    have hual : ∀ y, ua = some y → y.block < w.heap.size := fun y hy => by
      obtain ⟨g, e, h5⟩ := h.addr hy
      rw [e]
      exact h5
    have hl1 : ∀ y, ua' = some y → ua = some y ∨ wq.heap.size < y.block := fun y hy => by
      obtain ⟨g, rfl, h5⟩ := hx y hy
      rcases g3 with g3 | g3
      · rw [h5] at g3
        cases ua with
        | none => simp [Value.ownBlock] at g3
        | some y' =>
          obtain ⟨g', rfl⟩ := hadr y' rfl
          simp [Value.ownBlock] at g3
          subst g3
          exact .inl rfl
      · rw [h5] at g3
        simp at g3
        exact .inr (by show wq.heap.size < g; omega)
    have hmb : ∀ g, (Value.slice am s.size cm).ownBlock = some g → w.heap.size ≤ g ∧ g < wq.heap.size := fun g hg => World.ownsRow.lt hom g hg
    have hom' : Own w' 0 (.slice am s.size cm) (List.replicate s.size 110) := by
      refine keptOwn (Own.mono hom (Nat.zero_le _)) hk (fun g hg hm => ?_)
      have h6 := (hmb g hg).1
      cases ua with
      | none => simp at hm
      | some y =>
        simp at hm
        have := hual y rfl
        omega
    have hd' := hq.hd.kept hk hbS
    refine ⟨ua', c', rfl, hd'.cell 2, hd'.free 2, rfl, ?_, ua', c', .slice am s.size cm, ?_, fun y hy => (hl1 y hy).elim .inl (fun h => .inr (by omega)), fun g hg => (hmb g hg).1⟩
    · refine (hkq.wider (by simp)).trans ((hk.wider (fun x hx' => ?_)).trans ((kept_setCell w' b 2 _).wider (fun x hx' => ?_)))
      · exact List.mem_cons_of_mem _ (List.mem_append_left _ hx')
      · rw [List.mem_singleton] at hx'
        rw [hx']
        exact outF_b _ _ _
    · refine POut.app (w := w) h rfl (?_) g1 (fun y hy => (hl1 y hy).elim .inl (fun h => .inr (by omega))) hom' (fun g hg => ⟨(hmb g hg).1, fun y hy e => ?_⟩)
      · exact (hkq.wider (by simp)).trans hk
      · have h6 := hmb g hg
        rcases hl1 y hy with h7 | h7
        · have := hual y h7
          omega
        · omega
  have HF := hid hF
  have HLM : Hid (us.length + 1 ≤ maxLen) := hid (by unfold maxLen; omega)
  have HLN : Hid ((us.length + 1) * 48 ≤ 140737488355328) := hid (by omega)
  have HI := hid hi0
  have HZ0 := hid hz0
  have HZ1 := hid hz1
  have HZ2 := hid hz2
  generalize hP : OSubPost w b win bg ua us s = P at *
  have d2 : decide (1500 < (s.size : Int)) = false := decide_eq_false (by omega)
  have d3 : decide ((64 : Int) ≤ ((waitO us : Nat) : Int)) = false := decide_eq_false (by omega)
  generalize waitO us = q at *
  generalize us.length = N at *
  clear h hF hi0 hz0 hz1 hz2 hadr hl hl' hP
  go_enter Try.func15, Try.ntmps15
  go_wp2_with (go_at_call 25; refine hwt.mono ?_; rintro e w1 ⟨rfl, rfl⟩)
  go_loopw [5, 6] (fun vm vi wr => ∃ (k cm : Nat) (am : Option Addr), k ≤ s.size ∧ vi = .int .i64 (k : Int) ∧ vm = .slice am k cm ∧ Hid (Own wr w1.heap.size (.slice am k cm) (List.replicate k 110)) ∧ Hid (Below w1.heap.size w1 wr)) (fun _ vi _ => s.size - (intOf vi).toNat)
  case atStart => exact ⟨0, 0, none, Nat.zero_le _, rfl, rfl, hid (Own.nil _ _), hid (Below.refl _ _)⟩
  case round =>
    obtain ⟨k, cm, am, hk, rfl, rfl, HO, HB⟩ := hrel
    by_cases hks : k < s.size
    · have HLL : Hid ((List.replicate k (110 : Int)).length < 70368744177664) := hid (by rw [List.length_replicate]; omega)
      go_wp2_with (at_builtin; refine wpList_push w1.heap.size w1 110 HO.out rfl _ _ rfl rfl rfl HLL.out HB.out HB.out.size ?_; intro v3 w3 ho3 hb3; obtain ⟨a3, c3, ev3, -, -, -⟩ := Own.shape ho3; subst ev3; have HO3 := hid ho3; have HB3 := hid hb3; clear ho3 hb3)
      go_roundw
      case rel =>
        refine ⟨k + 1, c3, a3, by omega, by go_num, by simp, hid ?_, HB3⟩
        have h9 := HO3.out
        rw [← List.replicate_succ', List.length_replicate] at h9
        exact h9
      case measure => simp [intOf]; omega
    · have ek : k = s.size := by omega
      subst ek
      obtain ⟨c2, ho2, hpp⟩ := HF.out wr am cm HB.out HO.out
      have HO2 := hid ho2
      have HPP := hid hpp
      have hAq := at_alloc wr 110 [.string s, .slice am s.size cm, .bool false]
      have HS : Hid (∀ (j : Nat) u, (uoNew s (.slice am s.size cm)).cells[j]? = some u → (wr.alloc (.cells #[.string s, .slice am s.size cm, .bool false] 110)).cell? ⟨wr.heap.size, j, none⟩ = some u) := hid fun j u hu => (hAq.cell j).trans hu
      have HON : Hid (∀ u ∈ (uoNew s (.slice am s.size cm)).cells, u.oneCell' = true) := hid (by
        intro u hu
        simp [uoNew, UoP.cells] at hu
        rcases hu with rfl | rfl | rfl <;> rfl)
      clear ho2 hpp hAq HF
      go_wp2_with (at_builtin; refine wpList_pushR 0 wr.heap.size Try.underlying51 HI.out HZ0.out HZ1.out HZ2.out rfl (by decide) HO2.out rfl _ _ rfl rfl rfl rfl HS.out HON.out HLM.out HLN.out (Nat.zero_le _) ?_; intro v7 w7 ho7 hg7 hl7; obtain ⟨ua', c', rfl, k2, kf, hp7⟩ := HPP.out _ _ ho7 hg7 hl7; have HP7 := hid hp7; clear ho7 hg7 hl7 hp7)
      exact HP7.out
end Go.Proofs.Ytbjgfoiikhbonaf
namespace Go.Proofs.Ytbjgfoiikhbonaf
open Go.ChangeShapes Go.WideShapes Go.ChangeAt Go.RowKit
def mkc (k : Nat) : Int := if k = 0 then 110 else if k = 1 then 115 else 97
structure UoR (m : OutM) (u : Nat) (x : UoP) : Prop where
  tx : x.text = m.t u
  dn : x.dn = m.done u
  lo : 0 < x.text.size
  hi : x.text.size ≤ 1500
  ml : x.ms.length = x.text.size
  mks : ∀ t, t < x.text.size → x.ms.getD t 0 = mkc (m.mark u t) ∧ m.mark u t ≤ 2
structure OutR (m : OutM) (us : List UoP) : Prop where
  w1 : 1 ≤ m.win
  w2 : m.win ≤ 32
  bn : m.beg ≤ m.n
  len : us.length = m.n
  un : ∀ i, i < us.length → UoR m i (us.getD i .zero)
  fresh : ∀ u, m.n ≤ u → m.done u = false ∧ ∀ t, m.mark u t = 0
def RSnd (w : World) (p : Addr) (F : List Nat) (m : OutM) : Prop := ∃ b ua c us, p = ⟨b, 0, none⟩ ∧ F = outF b ua us ∧ POut w b m.win m.beg ua c us ∧ OutR m us
theorem waitO_range (us : List UoP) : waitO us = ((List.range us.length).filter fun i => !(us.getD i .zero).dn).length := by
  have key : ∀ k, k ≤ us.length → waitO (us.take k) = ((List.range k).filter fun i => !(us.getD i .zero).dn).length := by
    intro k
    induction k with
    | zero => intro _; rfl
    | succ k ih =>
      intro hk
      rw [takeO (by omega), waitO_snoc, ih (by omega), List.range_succ, List.filter_append, List.length_append]
      congr 1
      simp only [List.filter_cons, List.filter_nil]
      cases (us.getD k .zero).dn <;> rfl
  have := key us.length (Nat.le_refl _)
  rwa [List.take_length] at this
theorem OutR.wait {m : OutM} {us : List UoP} (h : OutR m us) : m.wait = waitO us := by
  unfold OutM.wait
  rw [waitO_range, ← h.len]
  congr 1
  refine List.filter_congr fun i hi => ?_
  rw [(h.un i (List.mem_range.1 hi)).dn]
theorem OutR.new {k : Nat} (h1 : 1 ≤ k) (h2 : k ≤ 32) : OutR (OutM.new k) [] :=
  ⟨h1, h2, Nat.le_refl _, rfl, fun i hi => by simp at hi, fun u _ => ⟨rfl, fun _ => rfl⟩⟩
theorem OutR.app {m : OutM} {us : List UoP} {s : ByteArray} {mv : Value} (h : OutR m us) (h0 : 0 < s.size) (h1 : s.size ≤ 1500) : OutR { m with text := m.text ++ [s] } (us ++ [uoNew s mv]) := by
  have hn : ({ m with text := m.text ++ [s] } : OutM).n = m.n + 1 := by unfold OutM.n; simp
  have hbn := h.bn
  have hlen := h.len
  refine ⟨h.w1, h.w2, by rw [hn]; exact Nat.le_succ_of_le hbn, ?_, fun i hi => ?_, fun u hu => ?_⟩
  · rw [hn, List.length_append, hlen]
    rfl
  · rw [List.length_append] at hi
    have hi : i < us.length + 1 := hi
    by_cases e : i = us.length
    · subst e
      rw [getD_appO2]
      have ht : ({ m with text := m.text ++ [s] } : OutM).t us.length = s := by rw [hlen]; exact t_app2
      obtain ⟨f1, f2⟩ := h.fresh us.length (by omega)
      refine ⟨ht.symm, f1.symm, h0, h1, ?_, fun t ht => ?_⟩
      · show (List.replicate s.size (110 : Int)).length = s.size
        simp
      · have ht : t < s.size := ht
        show (List.replicate s.size (110 : Int)).getD t 0 = mkc (m.mark us.length t) ∧ m.mark us.length t ≤ 2
        rw [f2 t]
        refine ⟨?_, by omega⟩
        rw [List.getD_eq_getElem?_getD, List.getElem?_replicate, if_pos ht]
        rfl
    · rw [getD_appO1 (by omega)]
      have hu := h.un i (by omega)
      exact ⟨by rw [hu.tx, t_app1 (by omega)], hu.dn, hu.lo, hu.hi, hu.ml, hu.mks⟩
  · rw [hn] at hu
    exact h.fresh u (by omega)
theorem rsnd_new (w : World) (k : Nat) (h1 : 1 ≤ k) (h2 : k ≤ 32) : RSnd (w.alloc (.cells #[.int .i64 (k : Int), .int .i64 0, .slice none 0 0] 53)) ⟨w.heap.size, 0, none⟩ (outF w.heap.size none []) (OutM.new k) := by
  refine ⟨w.heap.size, none, 0, [], rfl, rfl, ⟨at_alloc w 53 [.int .i64 (k : Int), .int .i64 0, .slice none 0 0], World.ownsRow_nil _ _ _ _, ?_, ?_, ?_, ?_⟩, OutR.new h1 h2⟩
  · intro i hi; simp at hi
  · intro y hy; simp at hy
  · intro i hi; simp at hi
  · intro i j hi; simp at hi
theorem rsnd_lt {w : World} {p : Addr} {F : List Nat} {m : OutM} (h : RSnd w p F m) : ∀ x ∈ F, x < w.heap.size := by
  obtain ⟨b, ua, c, us, -, rfl, h1, -⟩ := h
  exact h1.lt
theorem rsnd_kept {w w' : World} {p : Addr} {F T : List Nat} {m : OutM} (h : RSnd w p F m) (hk : Kept T w w') (hd : ∀ x ∈ F, x ∉ T) : RSnd w' p F m := by
  obtain ⟨b, ua, c, us, rfl, rfl, h1, h2⟩ := h
  exact ⟨b, ua, c, us, rfl, rfl, h1.kept hk hd, h2⟩
theorem rsnd_wait {w : World} {p : Addr} {F : List Nat} {m : OutM} (h : RSnd w p F m) (hn : m.n ≤ manyO) : Calls Try.prog 25 #[.pointer (some p)] w fun e w' => e = .returned (.int .i64 (m.wait : Nat)) ∧ w' = w := by
  obtain ⟨b, ua, c, us, rfl, rfl, h1, h2⟩ := h
  have := h2.len
  rw [h2.wait]
  exact owaiting_any h1 (by unfold manyO at hn; omega)
theorem rsnd_submit {w : World} {p : Addr} {F : List Nat} {m : OutM} (s : ByteArray) (h : RSnd w p F m) (hn : m.n ≤ manyO) (hs : s.size ≤ manyB) : Calls Try.prog 15 #[.pointer (some p), .string s] w fun e w' => e = .returned (.int .i64 (m.submit s).err) ∧ Kept F w w' ∧ ∃ F', RSnd w' p F' (m.submit s).m ∧ Grown w.heap.size F F' := by
  have h0 := h
  obtain ⟨b, ua, c, us, rfl, rfl, h1, h2⟩ := h
  have hlen := h2.len
  have hw := h2.wait
  have hn' : us.length ≤ 2000000000000 := by unfold manyO at hn; omega
  have hsub : m.submit s = if subErrO us s = 0 then ⟨{ m with text := m.text ++ [s] }, 0⟩ else ⟨m, subErrO us s⟩ := by
    unfold OutM.submit subErrO
    rw [hw]
    by_cases q0 : s.size = 0
    · simp [q0]
    · by_cases q1 : 1500 < s.size
      · simp [q0, q1]
      · by_cases q2 : 64 ≤ waitO us
        · simp [q0, q1, q2]
        · simp [q0, q1, q2]
  by_cases he : subErrO us s = 0
  · rw [if_pos he] at hsub
    have hc : 0 < s.size ∧ s.size ≤ 1500 ∧ waitO us < 64 := by
      unfold subErrO at he
      split at he
      · simp at he
      · split at he
        · simp at he
        · split at he
          · simp at he
          · omega
    rw [hsub]
    refine (osubmit_good h1 (by unfold manyO; omega) hc.1 hc.2.1 hc.2.2).mono ?_
    rintro e w' ⟨rfl, hk, ua', c', mv, hp, hl, hmv⟩
    refine ⟨rfl, hk, outF b ua' (us ++ [uoNew s mv]), ⟨b, ua', c', us ++ [uoNew s mv], rfl, rfl, hp, h2.app hc.1 hc.2.1⟩, fun x hx => ?_⟩
    rcases outF_mem hx with rfl | ⟨y, hy, rfl⟩ | ⟨i, hi, e⟩
    · exact .inl (outF_b _ _ _)
    · rcases hl y hy with h5 | h5
      · exact .inl (outF_u h5)
      · exact .inr h5
    · rw [List.length_append] at hi
      have hi : i < us.length + 1 := hi
      by_cases ei : i = us.length
      · subst ei
        rw [getD_appO2] at e
        exact .inr (hmv x e)
      · rw [getD_appO1 (by omega)] at e
        exact .inl (outF_a (by omega) e)
  · rw [if_neg he] at hsub
    rw [hsub]
    refine (osubmit_bad h1 (by omega) hs he).mono ?_
    rintro e w' ⟨rfl, rfl⟩
    exact ⟨rfl, Kept.refl _ _, _, h0, fun x hx => .inl hx⟩
end Go.Proofs.Ytbjgfoiikhbonaf
