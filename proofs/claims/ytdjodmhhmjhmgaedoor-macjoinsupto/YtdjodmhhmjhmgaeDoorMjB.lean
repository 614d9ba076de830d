import Derived.Test.YtdjodmhhmjhmgaeDoorMjA
import Derived.Deep.Cut
namespace Go.Proofs.YtdjodmhhmjhmgaeDoor
open Go.ChangeShapes Go.WideShapes Go.ChangeAt Go.RowKit

/-! THE DOCUMENT'S Join. -/

theorem all_false {l : List ItemM} {k : Nat} (hk : k < l.length) (h : (l.getD k .zero).ok = false) : l.all ItemM.ok = false := by
  rw [List.all_eq_false]
  refine ⟨l[k], List.getElem_mem hk, ?_⟩
  have e : l.getD k .zero = l[k] := by simp [List.getD, hk]
  rw [← e, h]
  decide
theorem all_true {l : List ItemM} (h : ∀ j, j < l.length → (l.getD j .zero).ok = true) : l.all ItemM.ok = true := by
  rw [List.all_eq_true]
  intro x hx
  obtain ⟨i, hi, rfl⟩ := List.getElem_of_mem hx
  have := h i hi
  simpa [List.getD, hi] using this

def sliceLen : Value → Nat
  | .slice _ m _ => m
  | _ => 0

set_option maxHeartbeats 1000000 in
theorem rjoin_size (l : List ItemM) (size : Int) (v : Value) (w : World) (hs : size < 0 ∨ 65535 < size) :
    Calls Tryd.prog 19 #[v, .int .i64 size] w fun e w' => e = .returned (.tuple #[.string (joinM l size).text, .int .i64 (joinM l size).err]) ∧ w = w' := by
  unfold joinM
  rw [if_pos hs]
  by_cases h0 : size < 0
  · have d0 : decide (size < 0) = true := decide_eq_true h0
    clear h0 hs
    go_enter Tryd.func19, Tryd.ntmps19
    go_wp2
    go_ret2
    exact ⟨rfl, rfl⟩
  · have d0 : decide (size < 0) = false := decide_eq_false h0
    have d1 : decide (65535 < size) = true := decide_eq_true (by omega)
    clear h0 hs
    go_enter Tryd.func19, Tryd.ntmps19
    go_wp2
    go_ret2
    exact ⟨rfl, rfl⟩

set_option maxRecDepth 100000 in
set_option maxHeartbeats 4000000 in
theorem rjoin_good (l : List ItemM) (n : Nat) (a : Option Addr) (nl c : Nat) (w : World) (hI : Itms w a l) (hnl : l.length = nl) (hm : nl ≤ maxLen) (hn : n ≤ 65535) (hroom : (itemsB l).length ≤ 1099511627776) :
    Calls Tryd.prog 19 #[.slice a nl c, .int .i64 (n : Int)] w fun e w' => e = .returned (.tuple #[.string (joinM l (n : Int)).text, .int .i64 (joinM l (n : Int)).err]) ∧ Below w.heap.size w w' := by
  have HI := hid hI
  have HNL := hid hnl
  have hm' : nl ≤ 9223372036854775807 := by unfold maxLen at hm; omega
  have d0 : decide ((n : Int) < 0) = false := decide_eq_false (by omega)
  have d1 : decide ((65535 : Int) < (n : Int)) = false := decide_eq_false (by omega)
  have hsz : ¬ ((n : Int) < 0 ∨ (65535 : Int) < (n : Int)) := by omega
  have HJ1 : Hid (l.all ItemM.ok = false → joinM l (n : Int) = ⟨ByteArray.empty, 1⟩) := fun h => by unfold joinM; rw [if_neg hsz, if_pos h]
  have HJ2 : Hid (l.all ItemM.ok = true → n < (itemsB l).length → joinM l (n : Int) = ⟨ByteArray.empty, 2⟩) := fun h h2 => by unfold joinM; rw [if_neg hsz, if_neg (by rw [h]; decide), if_pos (by omega)]
  have HJ3 : Hid (l.all ItemM.ok = true → (itemsB l).length ≤ n → joinM l (n : Int) = ⟨strOfNums (padB (itemsB l) n), 0⟩) := fun h h2 => by unfold joinM; rw [if_neg hsz, if_neg (by rw [h]; decide), if_neg (by omega)]; rfl
  clear hI hnl hm hsz
  go_enter Tryd.func19, Tryd.ntmps19
  go_wp2_with fail
  go_loopw [6, 7] (fun v i wr => ∃ k : Nat, k ≤ nl ∧ i = .int .i64 k ∧ Own wr w.heap.size v (itemsB (l.take k)) ∧ (∀ j, j < k → (l.getD j .zero).ok = true) ∧ Below w.heap.size w wr) (fun _ i _ => nl - (intOf i).toNat)
  case atStart => exact ⟨0, by omega, rfl, Own.nil w _, fun j hj => by omega, Below.refl _ w⟩
  case round =>
    obtain ⟨k, hk, rfl, ho, hoks, hb⟩ := hrel
    by_cases hlt : k < nl
    · obtain ⟨b, o, rfl, hC⟩ := HI.out.at (i := k) (by rw [HNL.out]; exact hlt)
      obtain ⟨q0, q1⟩ := hC k (by rw [HNL.out]; exact hlt)
      have hkl : k < l.length := by rw [HNL.out]; exact hlt
      have HTK := hid (itemsB_take hkl)
      have htl := itemsB_take_le l k
      have htl2 := itemsB_take_le l (k + 1)
      rw [itemsB_take hkl, List.length_append, List.length_append, bytesI_length] at htl2
      have HAF := hid (fun h => HJ1.out (all_false hkl h))
      have HOK := hid hoks
      obtain ⟨I, eI⟩ : ∃ I, I = l.getD k .zero := ⟨_, rfl⟩
      rw [← eI] at q0 q1 htl2 HAF HTK
      have q1w := q1
      have q0 := cellOldJ hb q0
      have q1 := cellOldJ hb q1
      have HE := hid eI
      clear hC eI hoks hkl
      by_cases h1 : I.ch < 1
      · have x1 : decide (I.ch < 1) = true := decide_eq_true h1
        have HX := hid (HAF.out (show I.ok = false from decide_eq_false (by omega)))
        clear h1 htl htl2
        go_wp2_with fail
        go_ret2
        rw [HX.out]
        exact ⟨rfl, hb⟩
      · have x1 : decide (I.ch < 1) = false := decide_eq_false h1
        by_cases h2 : 32 < I.ch
        · have x2 : decide (32 < I.ch) = true := decide_eq_true h2
          have HX := hid (HAF.out (show I.ok = false from decide_eq_false (by omega)))
          clear h1 h2 htl htl2
          go_wp2_with fail
          go_ret2
          rw [HX.out]
          exact ⟨rfl, hb⟩
        · have x2 : decide (32 < I.ch) = false := decide_eq_false h2
          by_cases h3 : 1500 < I.data.size
          · have x3 : decide ((1500 : Int) < (I.data.size : Int)) = true := decide_eq_true (by omega)
            have HX := hid (HAF.out (show I.ok = false from decide_eq_false (by omega)))
            clear h1 h2 h3 htl htl2
            go_wp2_with fail
            go_ret2
            rw [HX.out]
            exact ⟨rfl, hb⟩
          · have x3 : decide ((1500 : Int) < (I.data.size : Int)) = false := decide_eq_false (by omega)
            have HIO := hid (show I.ok = true from decide_eq_true (by omega))
            have hz : I.data.size ≤ 1500 := by omega
            have hc1 : 1 ≤ I.ch := by omega
            have hc2 : I.ch ≤ 32 := by omega
            have HL1 : Hid ((itemsB (l.take k)).length < 70368744177664) := by show _ < _; omega
            have HL2 : Hid (((itemsB (l.take k)) ++ [I.ch, (I.data.size : Int) / 256, (I.data.size : Int) % 256]).length + I.data.size ≤ 70368744177664) := by
              show _ ≤ _
              rw [List.length_append]
              have e3 : I.head.length = 3 := rfl
              have e4 : ([I.ch, (I.data.size : Int) / 256, (I.data.size : Int) % 256] : List Int).length = 3 := rfl
              omega
            have HHD := hid (show I.head = [I.ch, (I.data.size : Int) / 256, (I.data.size : Int) % 256] by unfold ItemM.head; rw [Int.natCast_ediv, Int.natCast_emod]; rfl)
            clear h1 h2 h3 htl htl2
            go_wp2_with (first
              | (at_builtin; refine wpList_push3 w.heap.size w _ _ _ ho rfl _ _ rfl rfl rfl HL1.out hb hb.size ?_; intro v1 w1 ho1 hb1; have q1b := cellOldJ hb1 q1w)
              | (at_builtin; refine wpList_pushS w.heap.size w I.data ho1 rfl _ _ rfl rfl rfl HL2.out hb1 hb1.size ?_; intro v2 w2 ho2 hb2))
            go_roundw
            case rel => exact ⟨k + 1, by omega, by go_num, by rw [HTK.out, HHD.out]; exact ho2, fun j hj => by
              by_cases e : j = k
              · rw [e, ← HE.out]; exact HIO.out
              · exact HOK.out j (by omega), hb2⟩
            case measure => simp [intOf]; omega
    · have e : k = nl := by omega
      subst e
      have hall := all_true (l := l) (fun j hj => hoks j (by rw [← HNL.out]; exact hj))
      have htk : l.take k = l := List.take_of_length_le (by rw [HNL.out]; exact Nat.le_refl _)
      rw [htk] at ho
      have HJ2 := hid (HJ2.out hall)
      have HJ3 := hid (HJ3.out hall)
      clear hall htk hoks HJ1
      generalize itemsB l = L at *
      obtain ⟨a6, c6, rfl, -, -, -⟩ := Own.shape ho
      by_cases hgt : n < L.length
      · have y1 : decide (n < L.length) = true := decide_eq_true hgt
        have HX := hid (HJ2.out hgt)
        go_wp2_with fail
        go_ret2
        rw [HX.out]
        exact ⟨rfl, hb⟩
      · have y1 : decide (n < L.length) = false := decide_eq_false hgt
        have HX := hid (HJ3.out (by omega))
        by_cases hl2 : L.length < n
        · have y2 : decide (L.length < n) = true := decide_eq_true hl2
          have HLE : Hid (L.length < 70368744177664) := by show _ < _; omega
          go_wp2_with (at_builtin; refine wpList_push w.heap.size w 63 ho rfl _ _ rfl rfl rfl HLE.out hb hb.size ?_; intro v1 w1 ho1 hb1)
          go_loopw [6] (fun v wq => ∃ j : Nat, L.length + 1 + j ≤ n ∧ Own wq w.heap.size v (L ++ [63] ++ List.replicate j 0) ∧ Below w.heap.size w wq) (fun v _ => n - sliceLen v)
          case atStart => exact ⟨0, by omega, by simpa using ho1, hb1⟩
          case round =>
            clear ho1 hb1 ho
            obtain ⟨j, hj, hoj, hbj⟩ := hrel
            have hM : (L ++ [63] ++ List.replicate j 0).length = L.length + 1 + j := by simp; omega
            have HMS := hid (show L ++ [63] ++ List.replicate (j + 1) 0 = (L ++ [63] ++ List.replicate j 0) ++ [0] by rw [List.replicate_succ', ← List.append_assoc])
            have HPD : Hid (L.length + 1 + j = n → padB L n = L ++ [63] ++ List.replicate j 0) := fun e => by
              unfold padB
              rw [if_pos hl2, show n - L.length - 1 = j by omega]
            obtain ⟨a7, c7, rfl, -, -, -⟩ := Own.shape hoj
            generalize L ++ [63] ++ List.replicate j 0 = M at *
            by_cases hlt2 : M.length < n
            · have z1 : decide (M.length < n) = true := decide_eq_true hlt2
              have HLE2 : Hid (M.length < 70368744177664) := by show _ < _; omega
              go_wp2_with (at_builtin; refine wpList_push w.heap.size w 0 hoj rfl _ _ rfl rfl rfl HLE2.out hbj hbj.size ?_; intro v3 w3 ho3 hb3)
              obtain ⟨a8, c8, rfl, -, -, -⟩ := Own.shape ho3
              go_roundw
              case rel => exact ⟨j + 1, by omega, by rw [HMS.out]; exact ho3, hb3⟩
              case measure => simp [sliceLen]; omega
            · have z1 : decide (M.length < n) = false := decide_eq_false hlt2
              have hen : L.length + 1 + j = n := by omega
              have HPE := hid (HPD.out hen)
              have hcv := conv_rd hoj.rd c7
              clear hM hen hj HPD HMS
              go_wp2_with fail
              go_ret2
              rw [HX.out, HPE.out]
              exact ⟨rfl, hbj⟩
        · have y2 : decide (L.length < n) = false := decide_eq_false hl2
          have hpd : padB L n = L := by unfold padB; rw [if_neg hl2]
          rw [hpd] at HX
          go_wp2_with fail
          go_loopw [6] (fun v wq => v = .slice a6 L.length c6 ∧ wr = wq) (fun v _ => n - sliceLen v)
          case atStart => exact ⟨rfl, rfl⟩
          case round =>
            obtain ⟨rfl, rfl⟩ := hrel
            have hcv := conv_rd ho.rd c6
            go_wp2_with fail
            go_ret2
            rw [HX.out]
            exact ⟨rfl, hb⟩
end Go.Proofs.YtdjodmhhmjhmgaeDoor
