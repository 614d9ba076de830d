import Derived.Test.YtbmdjfolfmgmmagK14
import Derived.Deep.RegionHeld3
import Derived.Test.YtbmdjfolfmgmmagK02
import Derived.Test.YtbmdjfolfmgmmagK03
import Derived.Test.YtbmdjfolfmgmmagK01
namespace Go.Proofs.Ytbmdjfolfmgmmag
open Go.ChangeShapes Go.WideShapes Go.ChangeAt Go.RowKit Go.Maps
def GcM.cnt (m : GcM) (p : PktM) : Nat := (cntG m.fst p.short).toNat
def GcM.opened (m : GcM) (p : PktM) : ByteArray := hidG p.data (seedG m.key (m.cnt p))
def takeErr (m : GcM) (p : PktM) : Int := if formOk p then (if cntIn m.fst p.short then (if p.sl = sealG (m.cnt p) (m.opened p) then cntErr m (m.cnt p) else 4) else 3) else 3
def GcM.put (m : GcM) (p : PktM) : GcM := ⟨m.key, m.fst, updM m.M (m.cnt p) (some (m.opened p))⟩
theorem formOk_bd {p : PktM} (h : formOk p = true) : (0 ≤ p.short ∧ p.short < 4096) ∧ p.sl.size = 3 ∧ p.data.size ≤ 500 := by
  unfold formOk at h
  simp only [Bool.and_eq_true, decide_eq_true_eq] at h
  exact ⟨⟨h.1.1.1, h.1.1.2⟩, h.1.2, h.2⟩
theorem cntIn_bd {f : Nat} {s : Int} (h : cntIn f s = true) : 0 ≤ cntG f s ∧ cntG f s < 16777216 := by
  unfold cntIn at h
  simp only [Bool.and_eq_true, decide_eq_true_eq] at h
  exact h
theorem textNeG {a b : ByteArray} (h : ¬ a = b) : (a.toList == b.toList) = false := by
  rw [ByteArray.toList_eq, ByteArray.toList_eq]
  cases hq : (a.data.toList == b.data.toList) with
  | false => rfl
  | true => exact absurd (WideShapes.bytes_inj (by simpa using hq)) h
def RefPost (w : World) (x : Int) : Ending → World → Prop := fun e w' => e = .returned (.tuple #[.slice none 0 0, .int .i64 x]) ∧ Below w.heap.size w w'
set_option maxRecDepth 100000 in
theorem gtake_form {w : World} {q : Addr} (p : PktM) (hz1 : p.sl.size ≤ 140737488355328) (hz2 : p.data.size ≤ 140737488355328) (hf : formOk p = false) :
    Calls Try.prog 14 #[.pointer (some q), p.val] w (RefPost w 3) := by
  have hc := fun wz => checkPacket_any p wz hz1 hz2
  rw [show formErr p = 3 by unfold formErr; rw [hf]; rfl] at hc
  obtain ⟨s, d, l⟩ := p
  dsimp only [PktM.val] at *
  have hb : Below w.heap.size w (w.alloc (.cells #[.int .i64 s, .string d, .string l] 43)) := (Below.refl _ w).alloc (Nat.le_refl _) _
  clear hf
  go_enter Try.func14, Try.ntmps14
  go_wp2_with (go_at_call 25; refine (hc _).mono ?_; rintro e w1 ⟨rfl, hb1⟩)
  go_ret2
  exact ⟨rfl, bthen hb hb1⟩
set_option maxRecDepth 100000 in
theorem gtake_count {w : World} {g bm : Nat} {m : GcM} (h : PGc w g bm m) (p : PktM) (hf : formOk p = true) (hi : cntIn m.fst p.short = false) :
    Calls Try.prog 14 #[.pointer (some ⟨g, 0, none⟩), p.val] w (RefPost w 3) := by
  obtain ⟨hs, hl3, hd5⟩ := formOk_bd hf
  have hc := fun wz => checkPacket_any p wz (by omega) (by omega)
  rw [show formErr p = 0 by unfold formErr; rw [hf]; rfl] at hc
  have hb : Below w.heap.size w (w.alloc (.cells #[.int .i64 p.short, .string p.data, .string p.sl] 43)) := (Below.refl _ w).alloc (Nat.le_refl _) _
  have hq : ∀ w1, Below (w.alloc (.cells #[.int .i64 p.short, .string p.data, .string p.sl] 43)).heap.size (w.alloc (.cells #[.int .i64 p.short, .string p.data, .string p.sl] 43)) w1 → w1.cell? ⟨w.heap.size, 0, none⟩ = some (.int .i64 p.short) ∧ Calls Try.prog 26 #[.pointer (some ⟨g, 0, none⟩), .int .i64 p.short] w1 fun e w' => e = .returned (.tuple #[.int .i64 0, .int .i64 3]) ∧ Below w1.heap.size w1 w' := fun w1 hb1 => by
    refine ⟨((at_newG w 43 [.int .i64 p.short, .string p.data, .string p.sl]).kept (S := []) (Kept.of_below hb1) (by simp)).cell 0, ?_⟩
    have := countOf_any ((h.kept (S := []) (Kept.of_below hb) (by simp)).kept (S := []) (Kept.of_below hb1) (by simp)) p.short hs
    rw [hi] at this
    exact this
  obtain ⟨s, d, l⟩ := p
  dsimp only [PktM.val] at *
  clear hf hi h hs hl3 hd5
  go_enter Try.func14, Try.ntmps14
  go_wp2_with (first
    | (go_at_call 25; refine (hc _).mono ?_; rintro e w1 ⟨rfl, hb1⟩; obtain ⟨k0, hcq⟩ := hq w1 hb1)
    | (go_at_call 26; refine hcq.mono ?_; rintro e w2 ⟨rfl, hb2⟩))
  go_ret2
  exact ⟨rfl, bthen hb (bthen hb1 hb2)⟩
/-- What stands in Take, from a world on. -/
structure TkW (w w1 : World) (g bm : Nat) (m : GcM) (p : PktM) : Prop where
  bel : Below w.heap.size w w1
  rc : PGc w1 g bm m
  pk : At w1 w.heap.size 43 [.int .i64 p.short, .string p.data, .string p.sl]
theorem TkW.next {w w1 w2 : World} {g bm : Nat} {m : GcM} {p : PktM} (h : TkW w w1 g bm m p) (hb : Below w1.heap.size w1 w2) : TkW w w2 g bm m p := ⟨bthen h.bel hb, h.rc.kept (S := []) (Kept.of_below hb) (by simp), h.pk.kept (S := []) (Kept.of_below hb) (by simp)⟩
theorem TkW.first {w : World} {g bm : Nat} {m : GcM} (p : PktM) (h : PGc w g bm m) : TkW w (w.alloc (.cells #[.int .i64 p.short, .string p.data, .string p.sl] 43)) g bm m p := by
  have hb : Below w.heap.size w (w.alloc (.cells #[.int .i64 p.short, .string p.data, .string p.sl] 43)) := (Below.refl _ w).alloc (Nat.le_refl _) _
  exact ⟨hb, h.kept (S := []) (Kept.of_below hb) (by simp), at_newG w _ _⟩
set_option maxRecDepth 100000 in
set_option maxHeartbeats 1000000 in
theorem gtake_seal {w : World} {g bm : Nat} {m : GcM} (h : PGc w g bm m) (p : PktM) (hf : formOk p = true) (hi : cntIn m.fst p.short = true) (hsl : ¬ p.sl = sealG (m.cnt p) (m.opened p)) :
    Calls Try.prog 14 #[.pointer (some ⟨g, 0, none⟩), p.val] w (RefPost w 4) := by
  obtain ⟨hs, hl3, hd5⟩ := formOk_bd hf
  have hc := fun wz => checkPacket_any p wz (by omega) (by omega)
  rw [show formErr p = 0 by unfold formErr; rw [hf]; rfl] at hc
  have hcb := cntIn_bd hi
  have hT := TkW.first p h
  obtain ⟨C, eC⟩ : ∃ C, C = m.cnt p := ⟨_, rfl⟩
  have hCi : cntG m.fst p.short = (C : Int) := by rw [eC]; unfold GcM.cnt; omega
  have hC : C < 16777216 := by omega
  have hcn : ∀ w1, TkW w w1 g bm m p → Calls Try.prog 26 #[.pointer (some ⟨g, 0, none⟩), .int .i64 p.short] w1 fun e w' => e = .returned (.tuple #[.int .i64 (C : Int), .int .i64 0]) ∧ Below w1.heap.size w1 w' := fun w1 h1 => by
    have := countOf_any h1.rc p.short hs
    rw [hi, hCi] at this
    exact this
  have hcv := fun wz => gcover_any p.data m.key C wz hd5 h.ok.key (by omega)
  have hse := fun wz => sealOf_any (m.opened p) C wz (by unfold GcM.opened; rw [hidG_size]; exact hd5)
  have eO : hidG p.data (seedG m.key C) = m.opened p := by rw [eC]; rfl
  rw [eO] at hcv
  rw [← eC] at hsl
  generalize m.opened p = D at *
  generalize sealG C D = L at *
  obtain ⟨M, eM⟩ : ∃ M : Int, M = (C : Int) := ⟨_, rfl⟩
  rw [← eM] at hcn hcv hse
  clear hf hi hs hl3 hd5 hcb eC hCi eO hC h eM
  obtain ⟨s, d, l⟩ := p
  dsimp only [PktM.val] at *
  have HT := hid hT
  have HCN := hid hcn
  have hnq := textNeG hsl
  clear hT hcn hsl
  go_enter Try.func14, Try.ntmps14
  go_upto_region 7 with (first
    | (go_at_call 25; refine (hc _).mono ?_; rintro e w1 ⟨rfl, hb1⟩; have HT1 := hid (HT.out.next hb1); have k0 : w1.cell? ⟨w.heap.size, 0, none⟩ = some (.int .i64 s) := HT1.out.pk.cell 0)
    | (go_at_call 26; refine (HCN.out w1 HT1.out).mono ?_; rintro e w2 ⟨rfl, hb2⟩))
  have HT2 := hid (HT1.out.next hb2)
  have k1 : w2.cell? ⟨w.heap.size, 1, none⟩ = some (.string d) := HT2.out.pk.cell 1
  have k2 : w2.cell? ⟨g, 0, none⟩ = some (.int .i64 m.key) := HT2.out.rc.hd.cell 0
  go_region_held3 (fun w' => w'.cell? ⟨w.heap.size, 1, none⟩ = some (.string d) ∧ w'.cell? ⟨g, 0, none⟩ = some (.int .i64 m.key)) (first | exact ⟨k1, k2⟩ | exact ⟨y1, y2⟩ | go_keep) (first | (go_at_call 27; refine (hcv _).mono ?_; rintro e w3 ⟨rfl, hb3⟩; have HT3 := hid ((HT2.out.next ((Below.refl _ w2).drew)).next hb3); have y1 : w3.cell? ⟨w.heap.size, 1, none⟩ = some (.string d) := HT3.out.pk.cell 1; have y2 : w3.cell? ⟨g, 0, none⟩ = some (.int .i64 m.key) := HT3.out.rc.hd.cell 0))
  have k3 : w3.cell? ⟨w.heap.size, 2, none⟩ = some (.string l) := HT3.out.pk.cell 2
  clear y1 y2 k1 k2 k0 hcv hc hb1 hb2 hb3
  go_upto_region 8 with fail
  go_region_held3 (fun w' => w'.cell? ⟨w.heap.size, 2, none⟩ = some (.string l)) (first | exact k3 | exact y3 | go_keep) (first | (go_at_call 28; refine (hse _).mono ?_; rintro e w4 ⟨rfl, hb4⟩; have HT4 := hid ((HT3.out.next ((Below.refl _ w3).drew)).next hb4); have y3 : w4.cell? ⟨w.heap.size, 2, none⟩ = some (.string l) := HT4.out.pk.cell 2))
  clear k3 y3
  go_wp2_with fail
  go_ret2
  exact ⟨rfl, HT4.out.bel⟩
set_option maxRecDepth 100000 in
set_option maxHeartbeats 1000000 in
theorem gtake_old {w : World} {g bm : Nat} {m : GcM} (h : PGc w g bm m) (p : PktM) (hf : formOk p = true) (hi : cntIn m.fst p.short = true) (hsl : p.sl = sealG (m.cnt p) (m.opened p)) (x : Int) (hx : cntErr m (m.cnt p) = x) (hx0 : x ≠ 0) :
    Calls Try.prog 14 #[.pointer (some ⟨g, 0, none⟩), p.val] w (RefPost w x) := by
  obtain ⟨hs, hl3, hd5⟩ := formOk_bd hf
  have hc := fun wz => checkPacket_any p wz (by omega) (by omega)
  rw [show formErr p = 0 by unfold formErr; rw [hf]; rfl] at hc
  have hcb := cntIn_bd hi
  have hT := TkW.first p h
  obtain ⟨C, eC⟩ : ∃ C, C = m.cnt p := ⟨_, rfl⟩
  have hCi : cntG m.fst p.short = (C : Int) := by rw [eC]; unfold GcM.cnt; omega
  have hC : C < 16777216 := by omega
  have hcn : ∀ w1, TkW w w1 g bm m p → Calls Try.prog 26 #[.pointer (some ⟨g, 0, none⟩), .int .i64 p.short] w1 fun e w' => e = .returned (.tuple #[.int .i64 (C : Int), .int .i64 0]) ∧ Below w1.heap.size w1 w' := fun w1 h1 => by
    have := countOf_any h1.rc p.short hs
    rw [hi, hCi] at this
    exact this
  have hcv := fun wz => gcover_any p.data m.key C wz hd5 h.ok.key (by omega)
  have hse := fun wz => sealOf_any (m.opened p) C wz (by unfold GcM.opened; rw [hidG_size]; exact hd5)
  have eO : hidG p.data (seedG m.key C) = m.opened p := by rw [eC]; rfl
  rw [eO] at hcv
  rw [← eC] at hsl
  have hck := fun w1 (h1 : TkW w w1 g bm m p) => checkCount_any h1.rc C hC
  rw [← eC] at hx
  rw [hx] at hck
  generalize m.opened p = D at *
  generalize sealG C D = L at *
  obtain ⟨M, eM⟩ : ∃ M : Int, M = (C : Int) := ⟨_, rfl⟩
  rw [← eM] at hcn hcv hse hck
  have hxb : (x != 0) = true := by simpa using hx0
  clear hf hi hs hl3 hd5 hcb eC hCi eO hC h eM hx hx0
  obtain ⟨s, d, l⟩ := p
  dsimp only [PktM.val] at *
  subst hsl
  have HT := hid hT
  have HCN := hid hcn
  have HCK := hid hck
  clear hT hcn hck
  go_enter Try.func14, Try.ntmps14
  go_upto_region 7 with (first
    | (go_at_call 25; refine (hc _).mono ?_; rintro e w1 ⟨rfl, hb1⟩; have HT1 := hid (HT.out.next hb1); have k0 : w1.cell? ⟨w.heap.size, 0, none⟩ = some (.int .i64 s) := HT1.out.pk.cell 0)
    | (go_at_call 26; refine (HCN.out w1 HT1.out).mono ?_; rintro e w2 ⟨rfl, hb2⟩))
  have HT2 := hid (HT1.out.next hb2)
  have k1 : w2.cell? ⟨w.heap.size, 1, none⟩ = some (.string d) := HT2.out.pk.cell 1
  have k2 : w2.cell? ⟨g, 0, none⟩ = some (.int .i64 m.key) := HT2.out.rc.hd.cell 0
  go_region_held3 (fun w' => w'.cell? ⟨w.heap.size, 1, none⟩ = some (.string d) ∧ w'.cell? ⟨g, 0, none⟩ = some (.int .i64 m.key)) (first | exact ⟨k1, k2⟩ | exact ⟨y1, y2⟩ | go_keep) (first | (go_at_call 27; refine (hcv _).mono ?_; rintro e w3 ⟨rfl, hb3⟩; have HT3 := hid ((HT2.out.next ((Below.refl _ w2).drew)).next hb3); have y1 : w3.cell? ⟨w.heap.size, 1, none⟩ = some (.string d) := HT3.out.pk.cell 1; have y2 : w3.cell? ⟨g, 0, none⟩ = some (.int .i64 m.key) := HT3.out.rc.hd.cell 0))
  have k3 : w3.cell? ⟨w.heap.size, 2, none⟩ = some (.string l) := HT3.out.pk.cell 2
  clear y1 y2 k1 k2 k0 hcv hc hb1 hb2 hb3
  go_upto_region 8 with fail
  go_region_held3 (fun w' => w'.cell? ⟨w.heap.size, 2, none⟩ = some (.string l)) (first | exact k3 | exact y3 | go_keep) (first | (go_at_call 28; refine (hse _).mono ?_; rintro e w4 ⟨rfl, hb4⟩; have HT4 := hid ((HT3.out.next ((Below.refl _ w3).drew)).next hb4); have y3 : w4.cell? ⟨w.heap.size, 2, none⟩ = some (.string l) := HT4.out.pk.cell 2))
  clear k3 y3
  go_wp2_with (go_at_call 29; refine (HCK.out w4 HT4.out).mono ?_; rintro e w5 ⟨rfl, rfl⟩)
  go_ret2
  exact ⟨rfl, HT4.out.bel⟩
theorem GcM.Ok.put {m : GcM} {p : PktM} (h : m.Ok) (hc : m.cnt p < 16777216) (hf : m.fst ≤ m.cnt p) : (m.put p).Ok := by
  refine ⟨h.key, h.few, fun k hk => ?_, fun k hk => ?_⟩
  · have hk' : k < m.fst := hk
    show updM m.M (m.cnt p) _ k = none
    rw [updM_other _ _ (show k ≠ m.cnt p by omega)]
    exact h.past k hk
  · show updM m.M (m.cnt p) _ k = none
    rw [updM_other _ _ (show k ≠ m.cnt p by omega)]
    exact h.top k hk
def TakePost (w : World) (g bm : Nat) (m : GcM) (n : Nat) : Ending → World → Prop := TellPost w g bm m n fun v => .tuple #[v, .int .i64 0]
set_option maxRecDepth 100000 in
set_option maxHeartbeats 1000000 in
theorem gtake_ok {w : World} {g bm : Nat} {m : GcM} (h : PGc w g bm m) (p : PktM) (hf : formOk p = true) (hi : cntIn m.fst p.short = true) (hsl : p.sl = sealG (m.cnt p) (m.opened p)) (hx : cntErr m (m.cnt p) = 0) {n : Nat} (hn : RunG (m.put p).M m.fst n) :
    Calls Try.prog 14 #[.pointer (some ⟨g, 0, none⟩), p.val] w (TakePost w g bm (m.put p) n) := by
  obtain ⟨hs, hl3, hd5⟩ := formOk_bd hf
  have hc := fun wz => checkPacket_any p wz (by omega) (by omega)
  rw [show formErr p = 0 by unfold formErr; rw [hf]; rfl] at hc
  have hcb := cntIn_bd hi
  have hT := TkW.first p h
  obtain ⟨C, eC⟩ : ∃ C, C = m.cnt p := ⟨_, rfl⟩
  have hCi : cntG m.fst p.short = (C : Int) := by rw [eC]; unfold GcM.cnt; omega
  have hC : C < 16777216 := by omega
  have hcn : ∀ w1, TkW w w1 g bm m p → Calls Try.prog 26 #[.pointer (some ⟨g, 0, none⟩), .int .i64 p.short] w1 fun e w' => e = .returned (.tuple #[.int .i64 (C : Int), .int .i64 0]) ∧ Below w1.heap.size w1 w' := fun w1 h1 => by
    have := countOf_any h1.rc p.short hs
    rw [hi, hCi] at this
    exact this
  have hcv := fun wz => gcover_any p.data m.key C wz hd5 h.ok.key (by omega)
  have hse := fun wz => sealOf_any (m.opened p) C wz (by unfold GcM.opened; rw [hidG_size]; exact hd5)
  have eO : hidG p.data (seedG m.key C) = m.opened p := by rw [eC]; rfl
  rw [eO] at hcv
  rw [← eC] at hsl
  have hck := fun w1 (h1 : TkW w w1 g bm m p) => checkCount_any h1.rc C hC
  have hx' : m.fst ≤ C ∧ m.M C = none := by
    rw [eC]
    unfold cntErr at hx
    split at hx
    · cases hx
    · split at hx
      · cases hx
      · rename_i q1 q2
        exact ⟨by omega, by simpa using q2⟩
  have hok' := h.ok.put (p := p) (by rw [← eC]; exact hC) (by rw [← eC]; exact hx'.1)
  have hne := h.ne
  have hlt := h.lt
  have hend : ∀ w4, TkW w w4 g bm m p → w4.cell? ⟨g, 2, none⟩ = some (.map (some bm)) ∧ ∃ w6, (Instr.mapUpdate 59 (.map (some bm)) (.int .i64 (C : Int)) (.string (m.opened p))).run Try.prog w4 = .ok () w6 ∧ Calls Try.prog 30 #[.pointer (some ⟨g, 0, none⟩)] w6 (fun e w' => ∃ v a c, e = .returned v ∧ v = .slice a n c ∧ TakePost w g bm (m.put p) n (.returned (.tuple #[v, .int .i64 0])) w') := fun w4 h4 => by
    refine ⟨h4.rc.hd.cell 2, ?_⟩
    obtain ⟨w6, hr, hS, hk⟩ := h4.rc.mp.put (k := C) hC (m.opened p) hx'.2
    refine ⟨w6, hr, ?_⟩
    have hP6 : PGc w6 g bm (m.put p) := by
      refine ⟨h4.rc.hd.kept hk (by simpa using hne), ?_, hne, hok'⟩
      rw [eC] at hS
      exact hS
    refine (tell_any hP6 hn).mono ?_
    rintro e w7 ⟨v, rfl, ho, hK, hP7⟩
    obtain ⟨a, c, rfl, -, -, -⟩ := row_shape ho
    have hs4 := h4.bel.size
    have hs6 := hk.size
    refine ⟨_, a, c, rfl, rfl, _, rfl, ?_, ((Kept.of_below h4.bel).trans (hk.wider (by simp [gcF]))).trans hK, hP7⟩
    have h8 := ho
    refine ⟨h8.1, ?_⟩
    rcases h8.2 with h9 | ⟨g9, cap, cur, q1, q2, q3⟩
    · exact .inl h9
    · exact .inr ⟨g9, cap, cur, q1, by omega, q3⟩
  rw [← eC] at hx
  rw [hx] at hck
  generalize m.opened p = D at *
  generalize sealG C D = L at *
  obtain ⟨M, eM⟩ : ∃ M : Int, M = (C : Int) := ⟨_, rfl⟩
  rw [← eM] at hcn hcv hse hck hend
  obtain ⟨mp, emp⟩ : ∃ mp, mp = m.put p := ⟨_, rfl⟩
  rw [← emp] at hend ⊢
  clear hf hi hs hl3 hd5 hcb eC hCi eO hC h eM hx hx' hok' hlt hn emp
  obtain ⟨s, d, l⟩ := p
  dsimp only [PktM.val] at *
  subst hsl
  have HT := hid hT
  have HCN := hid hcn
  have HCK := hid hck
  have HEN := hid hend
  clear hT hcn hck hend
  go_enter Try.func14, Try.ntmps14
  go_upto_region 7 with (first
    | (go_at_call 25; refine (hc _).mono ?_; rintro e w1 ⟨rfl, hb1⟩; have HT1 := hid (HT.out.next hb1); have k0 : w1.cell? ⟨w.heap.size, 0, none⟩ = some (.int .i64 s) := HT1.out.pk.cell 0)
    | (go_at_call 26; refine (HCN.out w1 HT1.out).mono ?_; rintro e w2 ⟨rfl, hb2⟩))
  have HT2 := hid (HT1.out.next hb2)
  have k1 : w2.cell? ⟨w.heap.size, 1, none⟩ = some (.string d) := HT2.out.pk.cell 1
  have k2 : w2.cell? ⟨g, 0, none⟩ = some (.int .i64 m.key) := HT2.out.rc.hd.cell 0
  go_region_held3 (fun w' => w'.cell? ⟨w.heap.size, 1, none⟩ = some (.string d) ∧ w'.cell? ⟨g, 0, none⟩ = some (.int .i64 m.key)) (first | exact ⟨k1, k2⟩ | exact ⟨y1, y2⟩ | go_keep) (first | (go_at_call 27; refine (hcv _).mono ?_; rintro e w3 ⟨rfl, hb3⟩; have HT3 := hid ((HT2.out.next ((Below.refl _ w2).drew)).next hb3); have y1 : w3.cell? ⟨w.heap.size, 1, none⟩ = some (.string d) := HT3.out.pk.cell 1; have y2 : w3.cell? ⟨g, 0, none⟩ = some (.int .i64 m.key) := HT3.out.rc.hd.cell 0))
  have k3 : w3.cell? ⟨w.heap.size, 2, none⟩ = some (.string l) := HT3.out.pk.cell 2
  clear y1 y2 k1 k2 k0 hcv hc hb1 hb2 hb3
  go_upto_region 8 with fail
  go_region_held3 (fun w' => w'.cell? ⟨w.heap.size, 2, none⟩ = some (.string l)) (first | exact k3 | exact y3 | go_keep) (first | (go_at_call 28; refine (hse _).mono ?_; rintro e w4 ⟨rfl, hb4⟩; have HT4 := hid ((HT3.out.next ((Below.refl _ w3).drew)).next hb4); have y3 : w4.cell? ⟨w.heap.size, 2, none⟩ = some (.string l) := HT4.out.pk.cell 2))
  clear k3 y3
  obtain ⟨y5, w6, hr6, htl⟩ := HEN.out w4 HT4.out
  go_wp2_with (first
    | (go_at_call 29; refine (HCK.out w4 HT4.out).mono ?_; rintro e w5 ⟨rfl, rfl⟩)
    | (go_at_call 30; refine htl.mono ?_; rintro e w7 ⟨v, a, c, rfl, rfl, hend⟩))
  go_ret2
  exact hend
end Go.Proofs.Ytbmdjfolfmgmmag
namespace Go.Proofs.Ytbmdjfolfmgmmag
open Go.ChangeShapes Go.WideShapes Go.ChangeAt Go.RowKit
set_option maxHeartbeats 1000000 in
theorem rpack_ok (zs : List Int) (a : Option Addr) (c : Nat) (w : World) (ha : Rd .u8 w a zs) (hb : Bits zs) (hz : zs.length ≤ 4096) :
    Calls Try.prog 42 #[.slice a zs.length c] w fun e w' => e = .returned (.string (strOfNums (packL zs))) ∧ Below w.heap.size w w' := by
  go_enter Try.func42, Try.ntmps42
  go_wp2
  go_loopw [3, 4] (fun v i wr => ∃ j I : Nat, Hid (I = 8 * j ∧ j ≤ (zs.length + 7) / 8) ∧ I ≤ 5000 ∧ i = .int .i64 I ∧ Own wr w.heap.size v (packUpto zs j) ∧ Below w.heap.size w wr) (fun _ i _ => 5000 - (intOf i).toNat)
  case atStart => exact ⟨0, 0, ⟨rfl, Nat.zero_le _⟩, by omega, rfl, Own.nil _ _, Below.refl _ _⟩
  case round =>
    obtain ⟨j, I, HI, hI, rfl, hown, hbel⟩ := hrel
    have hsz := hbel.size
    by_cases hlt : I < zs.length
    · go_wp2
      go_loop [5, 6] (fun n k => ∃ t : Nat, ∃ q : Int, t ≤ 8 ∧ 0 ≤ q ∧ q ≤ 255 ∧ k = .int .i64 (I + t : Nat) ∧ n = .int .i64 q ∧ Hid (q = num zs I t)) (fun _ k => I + 8 - (intOf k).toNat)
      case atStart => exact ⟨0, 0, by omega, by omega, by omega, rfl, rfl, rfl⟩
      case round =>
        obtain ⟨t, q, ht, hq0, hq1, rfl, rfl, HQ⟩ := hrel
        by_cases ht8 : t < 8
        · have hnext := num_byte hb I (t + 1) (by omega)
          rw [num, ← HQ.out] at hnext
          by_cases hin : I + t < zs.length
          · obtain ⟨b1, o1, rfl, hc1⟩ := (ha.below hbel).at hin
            have g1 := hc1 (I + t) hin
            have hx01 := hb (I + t)
            obtain ⟨x, hx⟩ : ∃ x, x = zs.getD (I + t) 0 := ⟨_, rfl⟩
            rw [← hx] at g1 hx01 hnext
            have HX : Hid (x = zs.getD (I + t) 0) := hx
            clear hc1 hx
            go_wp2
            go_round
            case rel => exact ⟨t + 1, q * 2 + x, by omega, by omega, by omega, by go_num, rfl, by unfold Hid; rw [num, ← HQ.out, ← HX.out]; omega⟩
            case measure => simp [intOf]; omega
          · have HX : Hid (zs.getD (I + t) 0 = 0) := by
              show _ = _
              rw [List.getD_eq_getElem?_getD, List.getElem?_eq_none (by omega)]; rfl
            rw [HX.out] at hnext
            go_wp2
            go_round
            case rel => exact ⟨t + 1, q * 2, by omega, by omega, by omega, by go_num, rfl, by unfold Hid; rw [num, ← HQ.out, HX.out]; omega⟩
            case measure => simp [intOf]; omega
        · obtain rfl : t = 8 := by omega
          have hj : j < (zs.length + 7) / 8 := by have := HI.out; omega
          go_wp2_with (at_builtin; refine wpList_push w.heap.size w q hown rfl _ _ rfl rfl rfl (by rw [packUpto_length]; omega) hbel hbel.size ?_)
          intro v' w1 hown' hbel'
          rw [HQ.out, HI.out.1, ← packUpto_succ] at hown'
          clear hown hbel
          go_wp2
          go_roundw
          case rel => exact ⟨j + 1, I + 8, ⟨by have := HI.out; omega, hj⟩, by omega, by go_num, hown', hbel'⟩
          case measure => simp [intOf]; omega
    · rw [packUpto_all zs j (by have := HI.out; omega) HI.out.2] at hown
      obtain ⟨a', c', rfl, _⟩ := hown.shape
      have hcv := conv_rd hown.rd c'
      go_wp2
      go_ret
      exact ⟨rfl, hbel⟩
end Go.Proofs.Ytbmdjfolfmgmmag
