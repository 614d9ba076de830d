import Derived.Test.YtmdfjhnibhmdkafDoorMcF
import Derived.Test.YtmdfjhnibhmdkafDoorMjL
import Derived.Deep.Cut
namespace Go.Proofs.YtmdfjhnibhmdkafDoor
open Go.ChangeShapes Go.WideShapes Go.ChangeAt Go.RowKit

/-! THE PROGRAM'S Split. -/

/-- 'append(out, t)' of items. -/
theorem wpList_pushIt {ops : Array Oper} {rest : List Oper} {o : Oper} {a : Act} {Q : Exit → Act → World → Prop} {w0 : World} {v : Value} {l : List ItemM} (B : Nat) (w00 : World) (t : ItemM) (hown : OwnIt w0 B v l) (hgd : o.guard = none) (s x : Operand)
    (ho : o.op = .call { callee := .builtin .append, args := #[s, x], argTypes := #[24, 24] }) (hs : a.eval s = v) (g : Nat) (hg : g = w0.heap.size) (hx : a.eval x = .slice (some ⟨g, 0, none⟩) 1 1) (hlen : l.length < 1000000) (hbel : Below B w00 w0) (hB : B ≤ w0.heap.size)
    (h : ∀ v' w', OwnIt w' B v' (l ++ [t]) → Below B w00 w' → wpList Tryd.prog ops Q rest (a.put o.dst v') w') : wpList Tryd.prog ops Q (o :: rest) a (w0.alloc (.cells #[.int .i64 t.ch, .string t.data] 31)) := by
  subst hg
  obtain ⟨i0, hi, hz0, hz1, hz2⟩ := info_parts Tryd.infoIt
  have hq := heap_alloc_new w0 (.cells #[.int .i64 t.ch, .string t.data] 31)
  refine wpList_append_own _ hgd s x 24 ho B 31 i0 (.agg #[.int .i64 0, .string { data := #[] }]) 2 24 Tryd.underlying24 hi hz0 hz1 hz2 rfl (by decide) v _ _ hs (World.ownsRow.alloc hown _) ⟨w0.heap.size, 0, none⟩ 1 1 [.int .i64 t.ch, .string t.data] hx rfl ?_ ?_ ?_ ?_ ?_ ?_
  · intro j u hj
    rw [Addr.add_lit, Nat.zero_add, cell_of_row _ _ _ _ _ _ hq]
    simpa using hj
  · intro u hu; simp at hu; rcases hu with rfl | rfl <;> rfl
  · unfold maxLen; omega
  · omega
  · simp; omega
  · intro v' w' h1 h2 _
    refine h v' w' ?_ ((hbel.alloc hB _).grown h2 (by simp; omega) hown.blocks)
    unfold OwnIt
    rw [List.length_append, cellsI_snoc]
    exact h1

set_option maxHeartbeats 1000000 in
theorem split_large (s : ByteArray) (w : World) (hs : 65535 < s.size) :
    Calls Tryd.prog 6 #[.string s] w fun e w' => e = .returned (.tuple #[.slice none 0 0, .int .i64 3]) ∧ w = w' := by
  have d1 : decide ((65535 : Int) < (s.size : Int)) = true := decide_eq_true (by omega)
  go_enter Tryd.func6, Tryd.ntmps6
  go_wp2
  go_ret2
  exact ⟨rfl, rfl⟩

set_option maxRecDepth 100000 in
set_option maxHeartbeats 4000000 in
theorem split_goodK (s : ByteArray) (w : World) (hs : s.size ≤ 65535) :
    Calls Tryd.prog 6 #[.string s] w fun e w' => (splitM s = none ∧ e = .returned (.tuple #[.slice none 0 0, .int .i64 3]) ∨ ∃ l a c, splitM s = some l ∧ e = .returned (.tuple #[.slice a l.length c, .int .i64 0]) ∧ OwnIt w' w.heap.size (.slice a l.length c) l) ∧ Below w.heap.size w w' := by
  have d1 : decide ((65535 : Int) < (s.size : Int)) = false := decide_eq_false (by omega)
  go_enter Tryd.func6, Tryd.ntmps6
  go_wp2_with fail
  go_loopw [0, 4] (fun q v wr => ∃ (p f : Nat) (pre : List ItemM), p ≤ s.size ∧ s.size < p + f ∧ q = .string (s.extract p s.size) ∧ OwnIt wr w.heap.size v pre ∧ Hid (parseM s (s.size + 1) 0 = (parseM s f p).map (pre ++ ·)) ∧ Hid (pre.all ItemM.ok = true) ∧ Hid (itemsB pre = (bytesI s).take p) ∧ pre.length ≤ p ∧ Below w.heap.size w wr) (fun q _ _ => strLen q)
  case atStart => exact ⟨0, s.size + 1, [], by omega, by omega, by rw [ext_all], OwnIt.nil w _, (by show _ = _; cases parseM s (s.size + 1) 0 <;> rfl), (by show _ = _; rfl), (by show _ = _; rfl), by simp, Below.refl _ w⟩
  case round =>
    obtain ⟨p, f, pre, hp, hf, rfl, ho, HP, HO, HB, hlp, hb⟩ := hrel
    have hus := ext_size s p s.size (Nat.le_refl _)
    obtain ⟨u, eu⟩ : ∃ u, u = s.extract p s.size := ⟨_, rfl⟩
    rw [← eu] at hus ⊢
    have HU := hid eu
    have HUS := hid hus
    have hu65 : u.size ≤ 65535 := by omega
    by_cases hlt : p < s.size
    · have g0 : 0 < u.size := by omega
      have gi0 : (0 : Int) < (u.size : Int) := by omega
      have xe := emp_false g0
      obtain ⟨B0, eB0⟩ : ∃ B0, u[0].toNat = B0 := ⟨_, rfl⟩
      have hN0 := byteN_eq u 0 g0
      rw [eB0] at hN0
      have hB0 := byteN_lt u 0
      have hbs : byteN s p = B0 := by rw [← hN0, eu, byteN_ext s p s.size 0 (by omega) (Nat.le_refl _)]; rfl
      by_cases h63 : B0 = 63
      · have x63 : ((B0 : Int) != 63) = false := by simp; omega
        obtain ⟨he1, he2⟩ := split_end hs hp hf (.inr (by rw [hbs, h63])) HP.out HO.out HB.out
        have ht1 : u.extract 1 u.size = s.extract (p + 1) s.size := by rw [hus, eu, ext_ext _ _ _ _ _ (by omega), show p + (s.size - p) = s.size by omega]
        have hts := ext_size s (p + 1) s.size (Nat.le_refl _)
        have hta := fun wz => trim_any (u.extract 1 u.size) wz (by rw [ht1, hts]; omega)
        have hgs : (1 : Int) ≤ (u.size : Int) := by omega
        obtain ⟨a4, c4, rfl, h1c, h2c⟩ := OwnIt.shape ho
        have hit := hid ho
        by_cases hz : ∀ j, p < j → byteN s j = 0
        · have HR := hid (he1 hz)
          have HZ : Hid (∀ j, byteN (u.extract 1 u.size) j = 0) := fun j => by
            rw [ht1]
            by_cases hj : p + 1 + j < s.size
            · rw [byteN_ext s (p + 1) s.size j hj (Nat.le_refl _)]; exact hz _ (by omega)
            · exact byteN_far _ (by rw [hts]; omega)
          clear he1 he2 hz hus eu hbs ht1 hts hN0 hp hf hlp
          go_wp2_with (go_at_call 30; refine (hta _).mono ?_; rintro e w1 ⟨r0, rfl, hr0, hb1⟩; have xr := emp_true (hr0.2 HZ.out); clear hr0)
          go_ret2
          exact ⟨.inr ⟨pre, a4, c4, HR.out, rfl, hit.out.below hb1⟩, hb.trans (hb1.mono hb.size)⟩
        · obtain ⟨j, hj1, hj2⟩ : ∃ j, p < j ∧ byteN s j ≠ 0 := by
            refine Classical.byContradiction fun h => hz fun j hj => ?_
            exact Classical.byContradiction fun h2 => h ⟨j, hj, h2⟩
          have HR := hid (he2 ⟨j, hj1, hj2⟩)
          have HZ : Hid (¬ ∀ j, byteN (u.extract 1 u.size) j = 0) := fun h => by
            have hjs : j < s.size := by
              rcases Nat.lt_or_ge j s.size with h | h
              · exact h
              · exact absurd (byteN_far s h) hj2
            have := h (j - p - 1)
            rw [ht1, byteN_ext s (p + 1) s.size _ (by omega) (Nat.le_refl _), show p + 1 + (j - p - 1) = j by omega] at this
            exact hj2 this
          clear he1 he2 hz hus eu hbs ht1 hts hN0 hp hf hlp hj1 hj2
          go_wp2_with (go_at_call 30; refine (hta _).mono ?_; rintro e w1 ⟨r0, rfl, hr0, hb1⟩; have xr := emp_false (s := r0) (Nat.pos_of_ne_zero (fun h => HZ.out (hr0.1 h))); clear hr0)
          go_ret2
          exact ⟨.inl ⟨HR.out, rfl⟩, hb.trans (hb1.mono hb.size)⟩
      · have x63 : ((B0 : Int) != 63) = true := by simp; omega
        have hfi := fun wz => first_any u wz hu65
        cases hfm : firstM u with
        | none =>
          rw [firstV_none hfm] at hfi
          have HR := hid (first_none hs hlt hf (by rw [hbs]; exact h63) HP.out (by rw [← eu]; exact hfm))
          clear hus eu hbs hN0 hp hf hlp hfm
          go_wp2_with (go_at_call 29; refine (hfi _).mono ?_; rintro e w1 ⟨rfl, hb1⟩)
          go_ret2
          exact ⟨.inl ⟨HR.out, rfl⟩, (hb.trans (hb1.mono hb.size)).alloc (by have := hb.size; have := hb1.size; omega) _⟩
        | some Ir =>
          obtain ⟨I, r⟩ := Ir
          rw [firstV_some hfm] at hfi
          obtain ⟨k1, k2, k3, k4⟩ := first_some hp (by rw [← eu]; exact hfm)
          obtain ⟨f', rfl⟩ : ∃ f', f = f' + 1 := ⟨f - 1, by omega⟩
          have hnew : parseM s (s.size + 1) 0 = (parseM s f' (p + 3 + partN s p)).map ((pre ++ [I]) ++ ·) := by
            rw [HP.out, parse_step ⟨hlt, by rw [hbs]; exact h63⟩ k1, k2]
            cases parseM s f' (p + 3 + partN s p) <;> simp
          have HP2 := hid hnew
          have HO2 := hid (show (pre ++ [I]).all ItemM.ok = true by rw [List.all_append, HO.out, List.all_cons, k3]; rfl)
          have HB2 := hid (show itemsB (pre ++ [I]) = (bytesI s).take (p + 3 + partN s p) by rw [k2]; exact items_more HB.out k1)
          have hrs := ext_size s (p + 3 + partN s p) s.size (Nat.le_refl _)
          obtain ⟨N, eN⟩ : ∃ N, N = p + 3 + partN s p := ⟨_, rfl⟩
          rw [← eN] at HP2 HB2 hrs k1 k4
          have hNp : p + 3 ≤ N := by omega
          have HK4 := hid k4
          have HRS := hid (show r.size = s.size - N by rw [k4]; exact hrs)
          have HLN : Hid (pre.length < 1000000) := by show _ < _; omega
          have hoB := fun (w1 : World) (h1 : Below wr.heap.size wr w1) => ho.below h1
          clear hus eu hbs hN0 hfm hnew k2 k3 k4 hrs eN HP HO HB
          go_wp2_with (first
            | (go_at_call 29; refine (hfi _).mono ?_; rintro e w1 ⟨rfl, hb1⟩; have hbw := hb.trans (hb1.mono hb.size); have ho1 := hoB _ hb1)
            | (at_builtin; refine wpList_pushIt w.heap.size w I (show OwnIt (w1.alloc _) _ _ _ from World.ownsRow.alloc ho1 _) rfl _ _ rfl rfl _ (by simp) rfl HLN.out (hbw.alloc hbw.size _) (by have := hbw.size; simp; omega) ?_; intro v2 w2 ho2 hb2))
          go_roundw
          case rel => exact ⟨N, f', pre ++ [I], k1, by omega, by rw [HK4.out], ho2, HP2, HO2, HB2, by simp; omega, hb2⟩
          case measure => show r.size < u.size; rw [HRS.out, HUS.out]; omega
    · have e : p = s.size := by omega
      have xe := emp_true (s := u) (by omega)
      obtain ⟨he1, _⟩ := split_end hs hp hf (.inl e) HP.out HO.out HB.out
      have HR := hid (he1 (fun j hj => byteN_far s (by omega)))
      obtain ⟨a4, c4, rfl, h1c, h2c⟩ := OwnIt.shape ho
      have hit := hid ho
      clear he1 hus eu e
      go_wp2_with fail
      go_ret2
      exact ⟨.inr ⟨pre, a4, c4, HR.out, rfl, hit.out⟩, hb⟩
theorem split_good (s : ByteArray) (w : World) (hs : s.size ≤ 65535) :
    Calls Tryd.prog 6 #[.string s] w fun e w' => (splitM s = none ∧ e = .returned (.tuple #[.slice none 0 0, .int .i64 3]) ∨ ∃ l a c, splitM s = some l ∧ e = .returned (.tuple #[.slice a l.length c, .int .i64 0]) ∧ Itms w' a l) ∧ Below w.heap.size w w' :=
  (split_goodK s w hs).mono fun _ _ ⟨h, hb⟩ => ⟨h.elim .inl (fun ⟨l, a, c, h1, h2, h3⟩ => .inr ⟨l, a, c, h1, h2, h3.itms⟩), hb⟩
theorem split_any (s : ByteArray) (w : World) :
    Calls Tryd.prog 6 #[.string s] w fun e w' => (splitM s = none ∧ e = .returned (.tuple #[.slice none 0 0, .int .i64 3]) ∨ ∃ l a c, splitM s = some l ∧ e = .returned (.tuple #[.slice a l.length c, .int .i64 0]) ∧ Itms w' a l) ∧ Below w.heap.size w w' := by
  by_cases hs : 65535 < s.size
  · refine (split_large s w hs).mono ?_
    rintro e w' ⟨rfl, rfl⟩
    refine ⟨.inl ⟨?_, rfl⟩, Below.refl _ _⟩
    unfold splitM
    rw [if_pos hs]
  · exact split_good s w (by omega)
theorem items_three : ∀ l : List ItemM, l.length * 3 ≤ (itemsB l).length
  | [] => Nat.le_refl _
  | x :: l => by
    have ih := items_three l
    have e : itemsB (x :: l) = x.bytes ++ itemsB l := rfl
    have h3 : 3 ≤ x.bytes.length := by
      show 3 ≤ (x.head ++ bytesI x.data).length
      rw [List.length_append]
      have : x.head.length = 3 := rfl
      omega
    rw [e, List.length_append, List.length_cons]
    omega
theorem mac_laws : MacLaws := ⟨fun l size a nl c w hI hnl hm hroom => join_any l size a nl c w hI hnl hm (by have := items_three l; omega), split_any⟩
end Go.Proofs.YtmdfjhnibhmdkafDoor
