import Derived.Test.YtdndeegpbjlibacWvM
import Derived.Test.YtdndeegpbjlibacAxisM
import Derived.Test.YtdndeegpbjlibacLawWave
namespace Go.Proofs.Ytdndeegpbjlibac
open Go.ChangeShapes Go.WideShapes Go.ChangeAt Go.RowKit Go.Shelf

/-! WHAT THE LAWS ASK OF Send, Hear, Near: the landed ones do it. -/

theorem flat_congr {α β : Type} {f g : α → List β} : ∀ {l : List α}, (∀ x ∈ l, f x = g x) → l.flatMap f = l.flatMap g
  | [], _ => rfl
  | x :: l, h => by rw [List.flatMap_cons, List.flatMap_cons, h x (by simp), flat_congr (fun y hy => h y (by simp [hy]))]
theorem pairs_heard {h : Nat} (h1 : 1 ≤ h) (hh : h ≤ 3) {ps : List (Int × Int)} (hin : ∀ k, k < ps.length → inSq (ps.getD k (0, 0)) = true) : pairsAll (hearM h) h ps ps.length = heardM h (2 * h) ps ps.length := by
  unfold pairsAll heardM
  rw [List.take_of_length_le (Nat.le_refl _)]
  refine flat_congr fun p hp => ?_
  obtain ⟨i, hi, rfl⟩ := List.getElem_of_mem hp
  have := hin i hi
  rw [getD_atQ _ _ hi] at this
  exact (heardOf_step h1 hh this h (Nat.le_refl _)).symm
theorem pairs_near {h : Nat} (h1 : 1 ≤ h) (hh : h ≤ 3) (ps : List (Int × Int)) : pairsAll (nearB h) h ps ps.length = nearM h (2 * h) ps ps.length := by
  unfold pairsAll nearM
  refine flat_congr fun p hp => ?_
  exact (nearAt_pairs p h1 hh).symm
theorem sentA_all {h : Nat} (h1 : 1 ≤ h) (hh : h ≤ 3) {b : List Int} {n : Nat} (hl : b.length = n * (2 * h)) (hb : ∀ x ∈ b, x = 0 ∨ x = 1) : sentA h b (2 * h) n n = sentM h b (2 * h) n := by
  unfold sentA sentM
  rw [Nat.sub_self, List.replicate_zero, List.append_nil]
  refine List.map_congr_left fun j hj => ?_
  have hj' : j < n := List.mem_range.1 hj
  exact (pt_levels h1 hh (chunkQ_length hl hj') (fun x hx => hb x (List.mem_of_mem_drop (List.mem_of_mem_take hx)))).2.2.symm

theorem wave_laws : WaveLaws := by
  constructor
  · intro b a c order w hr hbc hcm hy _
    by_cases h0 : errOf b = 0
    · cases ho : ordOk5 order with
      | false =>
        refine (send_order b order a c w hr (Nat.le_trans hbc hcm) h0 ho).mono fun e w' ⟨he, hb⟩ => ⟨none, 0, 0, ?_, hb, fun h => ?_, fun _ => rfl⟩
        · rw [he, show sendErr b order = 1 by unfold sendErr; rw [if_pos h0, ho]; rfl]
        · rw [show sendErr b order = 1 by unfold sendErr; rw [if_pos h0, ho]; rfl] at h; cases h
      | true =>
        obtain ⟨m, rfl⟩ : ∃ m : Nat, order = (m : Int) := ⟨order.toNat, by have := of_decide_eq_true ho; omega⟩
        by_cases hr0 : b.length % m = 0
        · have e0 : sendErr b m = 0 := by unfold sendErr; rw [if_pos h0, ho]; simp [hr0]
          have hm := of_decide_eq_true ho
          have hbl : b.length = b.length / m * m := by have := Nat.div_add_mod b.length m; rw [hr0, Nat.mul_comm] at this; omega
          have g4 := err_zero h0
          have hbt : ∀ v ∈ b, v = 0 ∨ v = 1 := fun v hv => by
            obtain ⟨i, hi, rfl⟩ := List.getElem_of_mem hv
            have h1 := g4.1 i
            have h2 := hy b[i] hv
            simp only [List.getD, List.getElem?_eq_getElem hi, Option.getD_some] at h1
            omega
          refine (send_good b (m / 2) m (b.length / m) a c w hr hbc hcm h0 (by omega) (by omega) (by omega) hbl (Nat.le_trans (Nat.div_le_self _ _) g4.2) hbt).mono fun e w' ⟨g, he, hP, _, hb⟩ => ⟨some ⟨g, 0, none⟩, b.length / m, b.length / m, ?_, hb, fun _ => ⟨?_, ?_⟩, fun h => absurd e0 h⟩
          · rw [he, e0]
          · rw [Int.toNat_natCast]
          · rw [Int.toNat_natCast]
            have e2 : 2 * (m / 2) = m := by omega
            have := sentA_all (h := m / 2) (by omega) (by omega) (b := b) (n := b.length / m) (by rw [e2]; exact hbl) hbt
            rw [e2] at this
            rw [← this]
            exact hP.pts
        · have e1 : sendErr b m = 1 := by unfold sendErr; rw [if_pos h0, ho]; simp [hr0]
          refine (send_rest b m a c w hr (Nat.le_trans hbc hcm) h0 ho hr0).mono fun e w' ⟨he, hb⟩ => ⟨none, 0, 0, ?_, hb, fun h => ?_, fun _ => rfl⟩
          · rw [he, e1]
          · rw [e1] at h; cases h
    · have e1 : sendErr b order = errOf b := by unfold sendErr; rw [if_neg h0]
      refine (send_bits b order a c w hr (Nat.le_trans hbc hcm) h0).mono fun e w' ⟨he, hb⟩ => ⟨none, 0, 0, ?_, hb, fun h => ?_, fun _ => rfl⟩
      · rw [he, e1]
      · rw [e1] at h; exact absurd h h0
  · intro ps a c order w hp hz _
    cases hok : hearsOk ps order with
    | false =>
      have e1 : hearErr ps order = 1 := by unfold hearErr; rw [hok]; rfl
      refine (hear_bad ps order a c w hp hz hok).mono fun e w' ⟨he, hb⟩ => ⟨none, 0, 0, ?_, hb, fun h => ?_, fun _ => rfl⟩
      · rw [he, e1]
      · rw [e1] at h; cases h
    | true =>
      have e0 : hearErr ps order = 0 := by unfold hearErr; rw [hok]; rfl
      obtain ⟨h, h1, hh, rfl, h4⟩ := hears_nums hok
      have e2 : 2 * h / 2 = h := by omega
      refine (hear_good ps h (2 * h) ps.length (ps.length * (2 * h)) a c w hp h1 hh rfl rfl rfl h4 hok).mono fun e w' ⟨g, he, hO, hb⟩ => ⟨some ⟨g, 0, none⟩, ps.length * (2 * h), ps.length * (2 * h), ?_, hb, fun _ => ⟨?_, ?_⟩, fun h => absurd e0 h⟩
      · rw [he, e0]
      · rw [Int.toNat_natCast]
      · rw [Int.toNat_natCast, e2, ← pairs_heard h1 hh (hears_in hok)]
        exact hO.rd
  · intro ps a c order w hp hz _
    cases hok : hearsOk ps order with
    | false =>
      have e1 : hearErr ps order = 1 := by unfold hearErr; rw [hok]; rfl
      refine (near_bad ps order a c w hp hz hok).mono fun e w' ⟨he, hb⟩ => ⟨none, 0, 0, ?_, hb, fun h => ?_, fun _ => rfl⟩
      · rw [he, e1]
      · rw [e1] at h; cases h
    | true =>
      have e0 : hearErr ps order = 0 := by unfold hearErr; rw [hok]; rfl
      obtain ⟨h, h1, hh, rfl, h4⟩ := hears_nums hok
      have e2 : 2 * h / 2 = h := by omega
      refine (near_good ps h (2 * h) ps.length (ps.length * (2 * h)) a c w hp h1 hh rfl rfl rfl h4 hok).mono fun e w' ⟨g, he, hO, hb⟩ => ⟨some ⟨g, 0, none⟩, ps.length * (2 * h), ps.length * (2 * h), ?_, hb, fun _ => ⟨?_, ?_, Nat.le_refl _, by unfold maxLen; omega⟩, fun h => absurd e0 h⟩
      · rw [he, e0]
      · rw [Int.toNat_natCast]
      · rw [Int.toNat_natCast, e2, ← pairs_near h1 hh]
        exact hO.rd
end Go.Proofs.Ytdndeegpbjlibac
