import Derived.Test.YtpeidccpplfbaaeDoorHsF
import Derived.Test.YtpeidccpplfbaaeDoorHsJ
import Derived.Test.YtpeidccpplfbaaeDoorHqA
namespace Go.Proofs.YtpeidccpplfbaaeDoor
open Go.ChangeShapes Go.WideShapes Go.ChangeAt Go.RowKit

/-! WHAT EACH OPERATION SAYS, of the program and of the document. -/

structure SubM where
  val : Int
  err : Int
  st : SendM
def SendM.sub (m : SendM) (s : ByteArray) : SubM := if 1500 < s.size then ⟨0, 2, m⟩ else if m.least = 8 then ⟨0, 7, m⟩ else ⟨(m.least : Int), 0, m.set m.least ((m.tat m.least).given s)⟩
structure NextM where
  shot : ShotM
  err : Int
  st : SendM
def ShotM.zero : ShotM := ⟨0, 0, false, { data := #[] }⟩
def SendM.nxt (m : SendM) (p : Int) : NextM := if procErr p = 1 then ⟨.zero, 1, m⟩ else if (m.tat p.toNat).busy = false then ⟨.zero, 6, m⟩ else if (m.tat p.toNat).opn then ⟨.zero, 9, m⟩ else ⟨⟨p, verAt (m.tat p.toNat).tries, (m.tat p.toNat).flag, (m.tat p.toNat).data⟩, 0, m.set p.toNat (m.tat p.toNat).tried⟩
structure AnsM where
  done : Bool
  err : Int
  st : SendM
def SendM.ans (m : SendM) (p : Int) (yes : Bool) : AnsM := if procErr p = 1 then ⟨false, 1, m⟩ else if (m.tat p.toNat).busy = false then ⟨false, 6, m⟩ else if (m.tat p.toNat).opn = false then ⟨false, 9, m⟩ else ⟨m.done p.toNat yes, 0, m.set p.toNat (m.answered p.toNat yes)⟩

theorem psubmit_any {w : World} {g bm : Nat} {m : SendM} (h : PSend w g bm m) (s : ByteArray) :
    Calls Tryd.prog 6 #[.pointer (some ⟨g, 0, none⟩), .string s] w fun e w' => e = .returned (.tuple #[.int .i64 (m.sub s).val, .int .i64 (m.sub s).err]) ∧ PSend w' g bm (m.sub s).st ∧ Kept [g, bm] w w' := by
  unfold SendM.sub
  by_cases hs : 1500 < s.size
  · rw [if_pos hs]
    refine (psubmit_large s hs).mono ?_
    rintro e w' ⟨rfl, rfl⟩
    exact ⟨rfl, h, Kept.refl _ _⟩
  · rw [if_neg hs]
    by_cases hl : m.least = 8
    · rw [if_pos hl]
      refine (psubmit_full h s (by omega) hl).mono ?_
      rintro e w' ⟨rfl, hb⟩
      exact ⟨rfl, h.old hb, Kept.of_below hb⟩
    · rw [if_neg hl]
      have := SendM.least_le h.2.2.len
      exact psubmit_good h s (by omega) m.least rfl (by omega)
theorem rsubmit_all {w : World} {g : Nat} {m : SendM} (h : RTries w g m) (hok : m.Ok) (s : ByteArray) :
    Calls Tryd.prog 7 #[.pointer (some ⟨g, 0, none⟩), .string s] w fun e w' => e = .returned (.tuple #[.int .i64 (m.sub s).val, .int .i64 (m.sub s).err]) ∧ RTries w' g (m.sub s).st ∧ Kept [g] w w' := by
  unfold SendM.sub
  by_cases hs : 1500 < s.size
  · rw [if_pos hs]
    refine (rsubmit_large s hs).mono ?_
    rintro e w' ⟨rfl, rfl⟩
    exact ⟨rfl, h, Kept.refl _ _⟩
  · rw [if_neg hs]
    refine (rsubmit_any h hok.len s (by omega)).mono ?_
    rintro e w' (⟨hl, rfl, rfl⟩ | ⟨hl, rfl, hR, hK⟩)
    · rw [if_pos hl]
      exact ⟨rfl, h, Kept.refl _ _⟩
    · rw [if_neg (by omega)]
      exact ⟨rfl, hR, hK⟩
theorem pnext_any {w : World} {g bm : Nat} {m : SendM} (h : PSend w g bm m) (hV : VerT w) (p : Int) :
    Calls Tryd.prog 8 #[.pointer (some ⟨g, 0, none⟩), .int .i64 p] w fun e w' => e = .returned (.tuple #[(m.nxt p).shot.val, .int .i64 (m.nxt p).err]) ∧ PSend w' g bm (m.nxt p).st ∧ Kept [g, bm] w w' := by
  have hb0 : Below w.heap.size w (w.alloc (.cells #[.int .i64 0, .int .i64 0, .bool false, .string { data := #[] }] 38)) := (Below.refl _ w).alloc (Nat.le_refl _) _
  unfold SendM.nxt
  rcases procErr_cases p with ⟨hp, _⟩ | ⟨hp, _⟩ | ⟨hp, k, hk, rfl⟩
  · rw [if_pos hp]
    refine (pnext_err p 1 (by decide) (pfind_bad p hp)).mono ?_
    rintro e w' ⟨rfl, hb⟩
    exact ⟨rfl, h.old hb, Kept.of_below hb⟩
  · rw [if_pos hp]
    refine (pnext_err p 1 (by decide) (pfind_bad p hp)).mono ?_
    rintro e w' ⟨rfl, hb⟩
    exact ⟨rfl, h.old hb, Kept.of_below hb⟩
  · rw [if_neg (by rw [hp]; decide), Int.toNat_natCast]
    cases hb : (m.tat k).busy with
    | false =>
      rw [if_pos rfl]
      refine (pnext_err (k : Int) 6 (by decide) (pfind_any (h.old hb0) k hk false zeroBlk 6 hb rfl rfl)).mono ?_
      rintro e w' ⟨rfl, hb⟩
      exact ⟨rfl, h.old hb, Kept.of_below hb⟩
    | true =>
      rw [if_neg (by simp)]
      cases ho : (m.tat k).opn with
      | true =>
        rw [if_pos rfl]
        refine (pnext_open h k hk hb ho).mono ?_
        rintro e w' ⟨rfl, hb⟩
        exact ⟨rfl, h.old hb, Kept.of_below hb⟩
      | false =>
        rw [if_neg (by simp)]
        exact pnext_good h hV k hk hb ho
theorem rnext_any {w : World} {g : Nat} {m : SendM} (h : RTries w g m) (hok : m.Ok) (p : Int) :
    Calls Tryd.prog 9 #[.pointer (some ⟨g, 0, none⟩), .int .i64 p] w fun e w' => e = .returned (.tuple #[(m.nxt p).shot.val, .int .i64 (m.nxt p).err]) ∧ RTries w' g (m.nxt p).st ∧ Kept [g] w w' := by
  unfold SendM.nxt
  rcases procErr_cases p with ⟨hp, _⟩ | ⟨hp, _⟩ | ⟨hp, k, hk, rfl⟩
  · rw [if_pos hp]
    refine (rnext_bad p hp).mono ?_
    rintro e w' ⟨rfl, hb⟩
    exact ⟨rfl, h.old hb, Kept.of_below hb⟩
  · rw [if_pos hp]
    refine (rnext_bad p hp).mono ?_
    rintro e w' ⟨rfl, hb⟩
    exact ⟨rfl, h.old hb, Kept.of_below hb⟩
  · rw [if_neg (by rw [hp]; decide), Int.toNat_natCast]
    cases hb : (m.tat k).busy with
    | false =>
      rw [if_pos rfl]
      refine (rnext_absent h hok.len k hk hb).mono ?_
      rintro e w' ⟨rfl, hb⟩
      exact ⟨rfl, h.old hb, Kept.of_below hb⟩
    | true =>
      rw [if_neg (by simp)]
      cases ho : (m.tat k).opn with
      | true =>
        rw [if_pos rfl]
        refine (rnext_open h hok.len k hk hb ho).mono ?_
        rintro e w' ⟨rfl, hb⟩
        exact ⟨rfl, h.old hb, Kept.of_below hb⟩
      | false =>
        rw [if_neg (by simp)]
        exact rnext_good h hok k hk hb ho
theorem done_yes (m : SendM) (k : Nat) : m.answered k true = ⟨false, (m.tat k).flag, false, (m.tat k).data, (m.tat k).tries⟩ := by simp [SendM.answered, SendM.done]
theorem done_limit {m : SendM} {k : Nat} (h : m.limit ≤ (m.tat k).tries) : m.done k false = true ∧ m.answered k false = ⟨false, (m.tat k).flag, false, (m.tat k).data, (m.tat k).tries⟩ := by simp [SendM.answered, SendM.done, h]
theorem done_no {m : SendM} {k : Nat} (h : (m.tat k).tries < m.limit) : m.done k false = false ∧ m.answered k false = ⟨true, (m.tat k).flag, false, (m.tat k).data, (m.tat k).tries⟩ := by
  have h' : ¬ m.limit ≤ (m.tat k).tries := by omega
  simp [SendM.answered, SendM.done, h']
theorem pans_any {w : World} {g bm : Nat} {m : SendM} (h : PSend w g bm m) (p : Int) (yes : Bool) :
    Calls Tryd.prog 10 #[.pointer (some ⟨g, 0, none⟩), .int .i64 p, .bool yes] w fun e w' => e = .returned (.tuple #[.bool (m.ans p yes).done, .int .i64 (m.ans p yes).err]) ∧ PSend w' g bm (m.ans p yes).st ∧ Kept [g, bm] w w' := by
  have hok := h.2.2
  unfold SendM.ans
  rcases procErr_cases p with ⟨hp, _⟩ | ⟨hp, _⟩ | ⟨hp, k, hk, rfl⟩
  · rw [if_pos hp]
    refine (pans_err p 1 yes (by decide) (pfind_bad p hp)).mono ?_
    rintro e w' ⟨rfl, hb⟩
    exact ⟨rfl, h.old hb, Kept.of_below hb⟩
  · rw [if_pos hp]
    refine (pans_err p 1 yes (by decide) (pfind_bad p hp)).mono ?_
    rintro e w' ⟨rfl, hb⟩
    exact ⟨rfl, h.old hb, Kept.of_below hb⟩
  · rw [if_neg (by rw [hp]; decide), Int.toNat_natCast]
    cases hb : (m.tat k).busy with
    | false =>
      rw [if_pos rfl]
      refine (pans_err (k : Int) 6 yes (by decide) (pfind_any h k hk false zeroBlk 6 hb rfl rfl)).mono ?_
      rintro e w' ⟨rfl, hb⟩
      exact ⟨rfl, h.old hb, Kept.of_below hb⟩
    | true =>
      rw [if_neg (by simp)]
      cases ho : (m.tat k).opn with
      | false =>
        rw [if_pos rfl]
        refine (pans_closed h k yes hk hb ho).mono ?_
        rintro e w' ⟨rfl, hb⟩
        exact ⟨rfl, h.old hb, Kept.of_below hb⟩
      | true =>
        rw [if_neg (by simp)]
        have hr := answered_right m k yes
        cases yes with
        | true => exact pans_yes h k hk hb ho (m.answered k true) (by rw [done_yes]) rfl hr
        | false =>
          rcases Nat.lt_or_ge (m.tat k).tries m.limit with hl | hl
          · obtain ⟨h1, h2⟩ := done_no hl
            have := pans_no h k hk hb ho (by omega) (m.answered k false) (by rw [h2]) rfl hr rfl
            dsimp only
            rw [h1]
            exact this
          · obtain ⟨h1, h2⟩ := done_limit hl
            have hle := ((hok.each k hk hb).1 ho).2
            have := pans_limit h k hk hb ho (by omega) (m.answered k false) (by rw [h2]) rfl hr
            dsimp only
            rw [h1]
            exact this
theorem rans_any {w : World} {g : Nat} {m : SendM} (h : RTries w g m) (hok : m.Ok) (p : Int) (yes : Bool) :
    Calls Tryd.prog 11 #[.pointer (some ⟨g, 0, none⟩), .int .i64 p, .bool yes] w fun e w' => e = .returned (.tuple #[.bool (m.ans p yes).done, .int .i64 (m.ans p yes).err]) ∧ RTries w' g (m.ans p yes).st ∧ Kept [g] w w' := by
  unfold SendM.ans
  rcases procErr_cases p with ⟨hp, _⟩ | ⟨hp, _⟩ | ⟨hp, k, hk, rfl⟩
  · rw [if_pos hp]
    refine (rans_bad p yes hp).mono ?_
    rintro e w' ⟨rfl, rfl⟩
    exact ⟨rfl, h, Kept.refl _ _⟩
  · rw [if_pos hp]
    refine (rans_bad p yes hp).mono ?_
    rintro e w' ⟨rfl, rfl⟩
    exact ⟨rfl, h, Kept.refl _ _⟩
  · rw [if_neg (by rw [hp]; decide), Int.toNat_natCast]
    cases hb : (m.tat k).busy with
    | false =>
      rw [if_pos rfl]
      refine (rans_absent h hok.len k yes hk hb).mono ?_
      rintro e w' ⟨rfl, rfl⟩
      exact ⟨rfl, h, Kept.refl _ _⟩
    | true =>
      rw [if_neg (by simp)]
      cases ho : (m.tat k).opn with
      | false =>
        rw [if_pos rfl]
        refine (rans_closed h hok.len k yes hk hb ho).mono ?_
        rintro e w' ⟨rfl, rfl⟩
        exact ⟨rfl, h, Kept.refl _ _⟩
      | true =>
        rw [if_neg (by simp)]
        cases yes with
        | true =>
          dsimp only
          rw [done_yes]
          exact rans_yes h hok.len k hk hb ho
        | false =>
          rcases Nat.lt_or_ge (m.tat k).tries m.limit with hl | hl
          · obtain ⟨h1, h2⟩ := done_no hl
            dsimp only
            rw [h1, h2]
            exact rans_no h hok.len k hk hb ho hl
          · obtain ⟨h1, h2⟩ := done_limit hl
            dsimp only
            rw [h1, h2]
            exact rans_limit h hok.len k hk hb ho hl
end Go.Proofs.YtpeidccpplfbaaeDoor
