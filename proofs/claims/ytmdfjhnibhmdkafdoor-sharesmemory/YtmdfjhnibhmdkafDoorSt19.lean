import Derived.Test.YtmdfjhnibhmdkafDoorSt18
import Derived.Test.YtmdfjhnibhmdkafDoorSt17
import Derived.Deep.Cut
namespace Go.Proofs.YtmdfjhnibhmdkafDoor
open Go.ChangeShapes Go.WideShapes Go.ChangeAt Go.RowKit
theorem bytesI_at (s : ByteArray) {k : Nat} (h : k < s.size) : (bytesI s)[k]'(by rw [bytesI_length]; exact h) = (byteN s k : Int) := by
  rw [byteN_eq s k h]
  unfold bytesI
  simp
  rfl
theorem bytesI_ext (s : ByteArray) (a n : Nat) (h : a + n ≤ s.size) : bytesI (s.extract a (a + n)) = ((bytesI s).drop a).take n := by
  refine List.ext_getElem ?_ fun j h1 h2 => ?_
  · rw [bytesI_length, ext_size _ _ _ h, List.length_take, List.length_drop, bytesI_length]; omega
  · have hj : j < n := by rw [bytesI_length, ext_size _ _ _ h] at h1; omega
    rw [bytesI_at _ (by rw [ext_size _ _ _ h]; omega), byteN_ext s a (a + n) j (by omega) h, List.getElem_take, List.getElem_drop, bytesI_at s (by omega)]
theorem items_more {s : ByteArray} {p : Nat} {pre : List ItemM} (hB : itemsB pre = (bytesI s).take p) (h : p + 3 + partN s p ≤ s.size) : itemsB (pre ++ [partI s p]) = (bytesI s).take (p + 3 + partN s p) := by
  have e1 : itemsB (pre ++ [partI s p]) = itemsB pre ++ (partI s p).bytes := by
    unfold itemsB
    rw [List.flatMap_append, List.flatMap_singleton]
  have hl : (bytesI s).length = s.size := bytesI_length s
  have hd : (partI s p).data.size = partN s p := by
    unfold partI
    show (s.extract (p + 3) (p + 3 + partN s p)).size = _
    rw [ext_size _ _ _ h]; omega
  have hb1 := byteN_lt s (p + 1)
  have hb2 := byteN_lt s (p + 2)
  have hq : (partI s p).data.size / 256 = byteN s (p + 1) ∧ (partI s p).data.size % 256 = byteN s (p + 2) := by
    rw [hd]; unfold partN; omega
  have e2 : (partI s p).head = [(byteN s p : Int), (byteN s (p + 1) : Int), (byteN s (p + 2) : Int)] := by
    unfold ItemM.head
    rw [hq.1, hq.2]
    rfl
  have e3 : bytesI (partI s p).data = ((bytesI s).drop (p + 3)).take (partN s p) := bytesI_ext s (p + 3) (partN s p) h
  have e4 : (bytesI s).take (p + 3) = (bytesI s).take p ++ [(byteN s p : Int), (byteN s (p + 1) : Int), (byteN s (p + 2) : Int)] := by
    rw [show p + 3 = p + 2 + 1 by omega, List.take_succ_eq_append_getElem (by omega), List.take_succ_eq_append_getElem (by omega), List.take_succ_eq_append_getElem (by omega), bytesI_at s (by omega), bytesI_at s (by omega), bytesI_at s (by omega)]
    simp
  rw [e1, hB]
  unfold ItemM.bytes
  rw [e2, e3, List.take_add, e4, List.append_assoc]
theorem part_shift {s : ByteArray} {p : Nat} (h3 : p + 3 ≤ s.size) : partN (s.extract p s.size) 0 = partN s p := by
  unfold partN
  rw [byteN_ext s p s.size (0 + 1) (by omega) (Nat.le_refl _), byteN_ext s p s.size (0 + 2) (by omega) (Nat.le_refl _), Nat.zero_add, Nat.zero_add]
theorem partI_shift {s : ByteArray} {p : Nat} (h3 : p + 3 + partN s p ≤ s.size) : partI (s.extract p s.size) 0 = partI s p := by
  unfold partI
  rw [part_shift (by omega), byteN_ext s p s.size 0 (by omega) (Nat.le_refl _), ext_ext _ _ _ _ _ (by omega), Nat.add_zero, Nat.zero_add, ← Nat.add_assoc]
theorem first_some {s : ByteArray} {p : Nat} {I : ItemM} {r : ByteArray} (hp : p ≤ s.size) (h : firstM (s.extract p s.size) = some (I, r)) : p + 3 + partN s p ≤ s.size ∧ I = partI s p ∧ I.ok = true ∧ r = s.extract (p + 3 + partN s p) s.size := by
  have hus := ext_size s p s.size (Nat.le_refl _)
  unfold firstM at h
  by_cases h3 : (s.extract p s.size).size < 3
  · rw [if_pos h3] at h; cases h
  · rw [if_neg h3] at h
    have h3' : p + 3 ≤ s.size := by omega
    rw [part_shift h3'] at h
    by_cases h4 : (s.extract p s.size).size < 3 + partN s p
    · rw [if_pos h4] at h; cases h
    · rw [if_neg h4] at h
      have h4' : p + 3 + partN s p ≤ s.size := by omega
      rw [partI_shift h4'] at h
      by_cases h5 : (partI s p).ok = false
      · rw [if_pos h5] at h; cases h
      · rw [if_neg h5] at h
        simp only [Option.some.injEq, Prod.mk.injEq] at h
        obtain ⟨rfl, rfl⟩ := h
        refine ⟨h4', rfl, by simpa using h5, ?_⟩
        rw [hus, ext_ext _ _ _ _ _ (by omega), ← Nat.add_assoc, show p + (s.size - p) = s.size by omega]
theorem join_notok {l : List ItemM} {n : Nat} (h : l.all ItemM.ok = false) : (joinM l (n : Int)).err ≠ 0 := fun he => by
  have := (joinM_ok he).2.2.1
  rw [h] at this
  cases this
theorem first_none {s : ByteArray} {p f : Nat} {pre : List ItemM} (hs : s.size ≤ 65535) (hp : p < s.size) (hf : s.size < p + f) (h63 : byteN s p ≠ 63) (hP : parseM s (s.size + 1) 0 = (parseM s f p).map (pre ++ ·)) (h : firstM (s.extract p s.size) = none) : splitM s = none := by
  have hus := ext_size s p s.size (Nat.le_refl _)
  have hno : parseM s (s.size + 1) 0 = none → splitM s = none := fun h => by unfold splitM; rw [if_neg (by omega), h]
  by_cases h3 : s.size < p + 3
  · exact hno (by rw [hP, parse_short (by omega) ⟨hp, h63⟩ (.inl h3)]; rfl)
  · by_cases h4 : s.size < p + 3 + partN s p
    · exact hno (by rw [hP, parse_short (by omega) ⟨hp, h63⟩ (.inr h4)]; rfl)
    · unfold firstM at h
      rw [if_neg (by omega), part_shift (by omega), if_neg (by omega), partI_shift (by omega)] at h
      by_cases h5 : (partI s p).ok = false
      · obtain ⟨f', rfl⟩ : ∃ f', f = f' + 1 := ⟨f - 1, by omega⟩
        rw [parse_step ⟨hp, h63⟩ (by omega)] at hP
        cases hq : parseM s f' (p + 3 + partN s p) with
        | none => exact hno (by rw [hP, hq]; rfl)
        | some l =>
          rw [hq] at hP
          have hP' : parseM s (s.size + 1) 0 = some (pre ++ (partI s p :: l)) := hP
          unfold splitM
          rw [if_neg (by omega), hP']
          refine if_neg fun hj => ?_
          refine join_notok (l := pre ++ (partI s p :: l)) ?_ hj.1
          rw [List.all_append, List.all_cons, h5]
          simp
      · rw [if_neg h5] at h; cases h
theorem split_end {s : ByteArray} {p f : Nat} {pre : List ItemM} (hs : s.size ≤ 65535) (hp : p ≤ s.size) (hf : s.size < p + f) (hst : p = s.size ∨ byteN s p = 63) (hP : parseM s (s.size + 1) 0 = (parseM s f p).map (pre ++ ·)) (hok : pre.all ItemM.ok = true) (hB : itemsB pre = (bytesI s).take p) :
    ((∀ j, p < j → byteN s j = 0) → splitM s = some pre) ∧ ((∃ j, p < j ∧ byteN s j ≠ 0) → splitM s = none) := by
  have hpa : parseM s (s.size + 1) 0 = some pre := by
    rw [hP, parse_stop (by omega) (fun h => by
      rcases hst with h1 | h1
      · omega
      · exact h.2 h1)]
    simp
  have hl : (bytesI s).length = s.size := bytesI_length s
  have hBl : (itemsB pre).length = p := by rw [hB, List.length_take]; omega
  have hj : joinM pre (s.size : Int) = ⟨strOfNums (padB (itemsB pre) s.size), 0⟩ := by
    unfold joinM
    rw [if_neg (by omega), if_neg (by rw [hok]; decide), if_neg (by omega)]
    rfl
  have hsp : splitM s = if strOfNums (padB (itemsB pre) s.size) = s then some pre else none := by
    unfold splitM
    rw [if_neg (by omega), hpa]
    simp only [hj, true_and]
  refine ⟨fun hz => ?_, fun ⟨j, hj1, hj2⟩ => ?_⟩
  · rw [hsp, if_pos ?_]
    have hpad : padB (itemsB pre) s.size = bytesI s := by
      unfold padB
      by_cases hlt : p < s.size
      · rw [if_pos (by omega), hBl, hB]
        have h63 : byteN s p = 63 := by
          rcases hst with h1 | h1
          · omega
          · exact h1
        have e1 : (bytesI s).drop p = (byteN s p : Int) :: (bytesI s).drop (p + 1) := by
          rw [List.drop_eq_getElem_cons (by omega), bytesI_at s hlt]
        have e2 : (bytesI s).drop (p + 1) = List.replicate (s.size - p - 1) 0 := by
          rw [List.eq_replicate_iff]
          refine ⟨by rw [List.length_drop]; omega, fun x hx => ?_⟩
          obtain ⟨i, hi, rfl⟩ := List.getElem_of_mem hx
          rw [List.length_drop] at hi
          rw [List.getElem_drop, bytesI_at s (by omega), hz _ (by omega)]
          rfl
        conv => rhs; rw [← List.take_append_drop p (bytesI s), e1, e2, h63]
        simp
      · rw [if_neg (by omega), hB, List.take_of_length_le (by omega)]
    rw [hpad, str_bytes]
  · rw [hsp, if_neg ?_]
    intro he
    have hjs : j < s.size := by
      rcases Nat.lt_or_ge j s.size with h | h
      · exact h
      · exact absurd (byteN_far s h) hj2
    have hbt := byteN_str (byt_pad (byt_items hok) s.size) (j := j) (by rw [padB_length (by omega)]; exact hjs)
    rw [he] at hbt
    have e0 : (padB (itemsB pre) s.size).getD j 0 = 0 := by
      unfold padB
      rw [if_pos (by omega)]
      simp only [List.getD]
      rw [List.getElem?_append_right (by simp; omega), List.getElem?_replicate]
      split <;> rfl
    rw [e0] at hbt
    exact hj2 (by omega)
end Go.Proofs.YtmdfjhnibhmdkafDoor
namespace Go.Proofs.YtmdfjhnibhmdkafDoor
open Go.ChangeShapes Go.WideShapes Go.ChangeAt Go.RowKit
structure MacLaws : Prop where
  join : ∀ (l : List ItemM) (size : Int) (a : Option Addr) (nl c : Nat) (w : World), Itms w a l → l.length = nl → nl ≤ maxLen → (itemsB l).length ≤ 1099511627776 → Calls Tryd.prog 5 #[.slice a nl c, .int .i64 size] w fun e w' => e = .returned (.tuple #[.string (joinM l size).text, .int .i64 (joinM l size).err]) ∧ Below w.heap.size w w'
  split : ∀ (s : ByteArray) (w : World), Calls Tryd.prog 6 #[.string s] w fun e w' => (splitM s = none ∧ e = .returned (.tuple #[.slice none 0 0, .int .i64 3]) ∨ ∃ l a c, splitM s = some l ∧ e = .returned (.tuple #[.slice a l.length c, .int .i64 0]) ∧ Itms w' a l) ∧ Below w.heap.size w w'
theorem Itms.below {w w' : World} {a : Option Addr} {l : List ItemM} (h : Itms w a l) (hb : Below w.heap.size w w') : Itms w' a l := by
  intro hne
  obtain ⟨b, o, rfl, hc⟩ := h hne
  exact ⟨b, o, rfl, fun i hi => ⟨cellOldJ hb (hc i hi).1, cellOldJ hb (hc i hi).2⟩⟩
end Go.Proofs.YtmdfjhnibhmdkafDoor
namespace Go.Proofs.YtmdfjhnibhmdkafDoor
open Go.ChangeShapes Go.WideShapes Go.ChangeAt Go.RowKit
/-- 'append(out, t)' of items. -/
theorem wpList_pushIt {ops : Array Oper} {rest : List Oper} {o : Oper} {a : Act} {Q : Exit → Act → World → Prop} {w0 : World} {v : Value} {l : List ItemM} (B : Nat) (w00 : World) (t : ItemM) (hown : OwnIt w0 B v l) (hgd : o.guard = none) (s x : Operand)
    (ho : o.op = .call { callee := .builtin .append, args := #[s, x], argTypes := #[24, 24] }) (hs : a.eval s = v) (g : Nat) (hg : g = w0.heap.size) (hx : a.eval x = .slice (some ⟨g, 0, none⟩) 1 1) (hlen : l.length < 1000000) (hbel : Below B w00 w0) (hB : B ≤ w0.heap.size)
    (h : ∀ v' w', OwnIt w' B v' (l ++ [t]) → Below B w00 w' → wpList Tryd.prog ops Q rest (a.put o.dst v') w') : wpList Tryd.prog ops Q (o :: rest) a (w0.alloc (.cells #[.int .i64 t.ch, .string t.data] 31)) := by
  subst hg
  obtain ⟨i0, hi, hz0, hz1, hz2⟩ := info_parts Tryd.infoIt
  have hq := heap_alloc_new w0 (.cells #[.int .i64 t.ch, .string t.data] 31)
  refine wpList_append_own _ hgd s x 24 ho B 31 i0 (.agg #[.int .i64 0, .string { data := #[] }]) 2 24 Tryd.underlying24 hi hz0 hz1 hz2 rfl (by decide) v _ _ hs (World.ownsRow.alloc hown _) ⟨w0.heap.size, 0, none⟩ 1 1 [.int .i64 t.ch, .string t.data] hx rfl ?_ ?_ ?_ ?_ ?_ ?_
  · intro j u hj
    rw [Addr.add_lit, Nat.zero_add, cell_of_row _ _ _ _ _ _ hq]
    simpa using hj
  · intro u hu; simp at hu; rcases hu with rfl | rfl <;> rfl
  · unfold maxLen; omega
  · omega
  · simp; omega
  · intro v' w' h1 h2 _
    refine h v' w' ?_ ((hbel.alloc hB _).grown h2 (by simp; omega) hown.blocks)
    unfold OwnIt
    rw [List.length_append, cellsI_snoc]
    exact h1
set_option maxHeartbeats 1000000 in
theorem split_large (s : ByteArray) (w : World) (hs : 65535 < s.size) :
    Calls Tryd.prog 6 #[.string s] w fun e w' => e = .returned (.tuple #[.slice none 0 0, .int .i64 3]) ∧ w = w' := by
  have d1 : decide ((65535 : Int) < (s.size : Int)) = true := decide_eq_true (by omega)
  go_enter Tryd.func6, Tryd.ntmps6
  go_wp2
  go_ret2
  exact ⟨rfl, rfl⟩
set_option maxRecDepth 100000 in
set_option maxHeartbeats 4000000 in
theorem split_goodK (s : ByteArray) (w : World) (hs : s.size ≤ 65535) :
    Calls Tryd.prog 6 #[.string s] w fun e w' => (splitM s = none ∧ e = .returned (.tuple #[.slice none 0 0, .int .i64 3]) ∨ ∃ l a c, splitM s = some l ∧ e = .returned (.tuple #[.slice a l.length c, .int .i64 0]) ∧ OwnIt w' w.heap.size (.slice a l.length c) l ∧ l.length ≤ s.size) ∧ Below w.heap.size w w' := by
  have d1 : decide ((65535 : Int) < (s.size : Int)) = false := decide_eq_false (by omega)
  go_enter Tryd.func6, Tryd.ntmps6
  go_wp2_with fail
  go_loopw [0, 4] (fun q v wr => ∃ (p f : Nat) (pre : List ItemM), p ≤ s.size ∧ s.size < p + f ∧ q = .string (s.extract p s.size) ∧ OwnIt wr w.heap.size v pre ∧ Hid (parseM s (s.size + 1) 0 = (parseM s f p).map (pre ++ ·)) ∧ Hid (pre.all ItemM.ok = true) ∧ Hid (itemsB pre = (bytesI s).take p) ∧ pre.length ≤ p ∧ Below w.heap.size w wr) (fun q _ _ => strLen q)
  case atStart => exact ⟨0, s.size + 1, [], by omega, by omega, by rw [ext_all], OwnIt.nil w _, (by show _ = _; cases parseM s (s.size + 1) 0 <;> rfl), (by show _ = _; rfl), (by show _ = _; rfl), by simp, Below.refl _ w⟩
  case round =>
    obtain ⟨p, f, pre, hp, hf, rfl, ho, HP, HO, HB, hlp, hb⟩ := hrel
    have HLP : Hid (pre.length ≤ s.size) := by show _ ≤ _; omega
    have hus := ext_size s p s.size (Nat.le_refl _)
    obtain ⟨u, eu⟩ : ∃ u, u = s.extract p s.size := ⟨_, rfl⟩
    rw [← eu] at hus ⊢
    have HU := hid eu
    have HUS := hid hus
    have hu65 : u.size ≤ 65535 := by omega
    by_cases hlt : p < s.size
    · have g0 : 0 < u.size := by omega
      have gi0 : (0 : Int) < (u.size : Int) := by omega
      have xe := emp_false g0
      obtain ⟨B0, eB0⟩ : ∃ B0, u[0].toNat = B0 := ⟨_, rfl⟩
      have hN0 := byteN_eq u 0 g0
      rw [eB0] at hN0
      have hB0 := byteN_lt u 0
      have hbs : byteN s p = B0 := by rw [← hN0, eu, byteN_ext s p s.size 0 (by omega) (Nat.le_refl _)]; rfl
      by_cases h63 : B0 = 63
      · have x63 : ((B0 : Int) != 63) = false := by simp; omega
        obtain ⟨he1, he2⟩ := split_end hs hp hf (.inr (by rw [hbs, h63])) HP.out HO.out HB.out
        have ht1 : u.extract 1 u.size = s.extract (p + 1) s.size := by rw [hus, eu, ext_ext _ _ _ _ _ (by omega), show p + (s.size - p) = s.size by omega]
        have hts := ext_size s (p + 1) s.size (Nat.le_refl _)
        have hta := fun wz => trim_any (u.extract 1 u.size) wz (by rw [ht1, hts]; omega)
        have hgs : (1 : Int) ≤ (u.size : Int) := by omega
        obtain ⟨a4, c4, rfl, h1c, h2c⟩ := OwnIt.shape ho
        have hit := hid ho
        by_cases hz : ∀ j, p < j → byteN s j = 0
        · have HR := hid (he1 hz)
          have HZ : Hid (∀ j, byteN (u.extract 1 u.size) j = 0) := fun j => by
            rw [ht1]
            by_cases hj : p + 1 + j < s.size
            · rw [byteN_ext s (p + 1) s.size j hj (Nat.le_refl _)]; exact hz _ (by omega)
            · exact byteN_far _ (by rw [hts]; omega)
          clear he1 he2 hz hus eu hbs ht1 hts hN0 hp hf hlp
          go_wp2_with (go_at_call 30; refine (hta _).mono ?_; rintro e w1 ⟨r0, rfl, hr0, hb1⟩; have xr := emp_true (hr0.2 HZ.out); clear hr0)
          go_ret2
          exact ⟨.inr ⟨pre, a4, c4, HR.out, rfl, hit.out.below hb1, HLP.out⟩, hb.trans (hb1.mono hb.size)⟩
        · obtain ⟨j, hj1, hj2⟩ : ∃ j, p < j ∧ byteN s j ≠ 0 := by
            refine Classical.byContradiction fun h => hz fun j hj => ?_
            exact Classical.byContradiction fun h2 => h ⟨j, hj, h2⟩
          have HR := hid (he2 ⟨j, hj1, hj2⟩)
          have HZ : Hid (¬ ∀ j, byteN (u.extract 1 u.size) j = 0) := fun h => by
            have hjs : j < s.size := by
              rcases Nat.lt_or_ge j s.size with h | h
              · exact h
              · exact absurd (byteN_far s h) hj2
            have := h (j - p - 1)
            rw [ht1, byteN_ext s (p + 1) s.size _ (by omega) (Nat.le_refl _), show p + 1 + (j - p - 1) = j by omega] at this
            exact hj2 this
          clear he1 he2 hz hus eu hbs ht1 hts hN0 hp hf hlp hj1 hj2
          go_wp2_with (go_at_call 30; refine (hta _).mono ?_; rintro e w1 ⟨r0, rfl, hr0, hb1⟩; have xr := emp_false (s := r0) (Nat.pos_of_ne_zero (fun h => HZ.out (hr0.1 h))); clear hr0)
          go_ret2
          exact ⟨.inl ⟨HR.out, rfl⟩, hb.trans (hb1.mono hb.size)⟩
      · have x63 : ((B0 : Int) != 63) = true := by simp; omega
        have hfi := fun wz => first_any u wz hu65
        cases hfm : firstM u with
        | none =>
          rw [firstV_none hfm] at hfi
          have HR := hid (first_none hs hlt hf (by rw [hbs]; exact h63) HP.out (by rw [← eu]; exact hfm))
          clear hus eu hbs hN0 hp hf hlp hfm
          go_wp2_with (go_at_call 29; refine (hfi _).mono ?_; rintro e w1 ⟨rfl, hb1⟩)
          go_ret2
          exact ⟨.inl ⟨HR.out, rfl⟩, (hb.trans (hb1.mono hb.size)).alloc (by have := hb.size; have := hb1.size; omega) _⟩
        | some Ir =>
          obtain ⟨I, r⟩ := Ir
          rw [firstV_some hfm] at hfi
          obtain ⟨k1, k2, k3, k4⟩ := first_some hp (by rw [← eu]; exact hfm)
          obtain ⟨f', rfl⟩ : ∃ f', f = f' + 1 := ⟨f - 1, by omega⟩
          have hnew : parseM s (s.size + 1) 0 = (parseM s f' (p + 3 + partN s p)).map ((pre ++ [I]) ++ ·) := by
            rw [HP.out, parse_step ⟨hlt, by rw [hbs]; exact h63⟩ k1, k2]
            cases parseM s f' (p + 3 + partN s p) <;> simp
          have HP2 := hid hnew
          have HO2 := hid (show (pre ++ [I]).all ItemM.ok = true by rw [List.all_append, HO.out, List.all_cons, k3]; rfl)
          have HB2 := hid (show itemsB (pre ++ [I]) = (bytesI s).take (p + 3 + partN s p) by rw [k2]; exact items_more HB.out k1)
          have hrs := ext_size s (p + 3 + partN s p) s.size (Nat.le_refl _)
          obtain ⟨N, eN⟩ : ∃ N, N = p + 3 + partN s p := ⟨_, rfl⟩
          rw [← eN] at HP2 HB2 hrs k1 k4
          have hNp : p + 3 ≤ N := by omega
          have HK4 := hid k4
          have HRS := hid (show r.size = s.size - N by rw [k4]; exact hrs)
          have HLN : Hid (pre.length < 1000000) := by show _ < _; omega
          have hoB := fun (w1 : World) (h1 : Below wr.heap.size wr w1) => ho.below h1
          clear hus eu hbs hN0 hfm hnew k2 k3 k4 hrs eN HP HO HB
          go_wp2_with (first
            | (go_at_call 29; refine (hfi _).mono ?_; rintro e w1 ⟨rfl, hb1⟩; have hbw := hb.trans (hb1.mono hb.size); have ho1 := hoB _ hb1)
            | (at_builtin; refine wpList_pushIt w.heap.size w I (show OwnIt (w1.alloc _) _ _ _ from World.ownsRow.alloc ho1 _) rfl _ _ rfl rfl _ (by simp) rfl HLN.out (hbw.alloc hbw.size _) (by have := hbw.size; simp; omega) ?_; intro v2 w2 ho2 hb2))
          go_roundw
          case rel => exact ⟨N, f', pre ++ [I], k1, by omega, by rw [HK4.out], ho2, HP2, HO2, HB2, by simp; omega, hb2⟩
          case measure => show r.size < u.size; rw [HRS.out, HUS.out]; omega
    · have e : p = s.size := by omega
      have xe := emp_true (s := u) (by omega)
      obtain ⟨he1, _⟩ := split_end hs hp hf (.inl e) HP.out HO.out HB.out
      have HR := hid (he1 (fun j hj => byteN_far s (by omega)))
      obtain ⟨a4, c4, rfl, h1c, h2c⟩ := OwnIt.shape ho
      have hit := hid ho
      clear he1 hus eu e
      go_wp2_with fail
      go_ret2
      exact ⟨.inr ⟨pre, a4, c4, HR.out, rfl, hit.out, HLP.out⟩, hb⟩
end Go.Proofs.YtmdfjhnibhmdkafDoor
