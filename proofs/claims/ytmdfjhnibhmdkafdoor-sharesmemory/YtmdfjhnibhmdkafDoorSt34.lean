import Derived.Test.YtmdfjhnibhmdkafDoorSt30
import Derived.Test.YtmdfjhnibhmdkafDoorSt31
import Derived.Test.YtmdfjhnibhmdkafDoorSt32
import Derived.Test.YtmdfjhnibhmdkafDoorSt33
import Derived.Test.YtmdfjhnibhmdkafDoorSt26
import Derived.Test.YtmdfjhnibhmdkafDoorSt25
import Derived.Test.YtmdfjhnibhmdkafDoorSt19
import Derived.Test.YtmdfjhnibhmdkafDoorSt08
import Derived.Test.YtmdfjhnibhmdkafDoorSt15
import Derived.Test.YtmdfjhnibhmdkafDoorSt14
namespace Go.Proofs.YtmdfjhnibhmdkafDoor
open Go.ChangeShapes Go.WideShapes Go.ChangeAt Go.RowKit
/-- A world's first blocks. -/
def World.cutAt (w : World) (B : Nat) : World := { w with heap := w.heap.extract 0 B }
theorem cutAt_size {w : World} {B : Nat} (h : B ≤ w.heap.size) : (World.cutAt w B).heap.size = B := by
  show (w.heap.extract 0 B).size = B
  simp
  omega
theorem cutAt_block {w : World} {B k : Nat} (hB : B ≤ w.heap.size) (h : k < B) : w.heap[k]? = (World.cutAt w B).heap[k]? := by
  show w.heap[k]? = (w.heap.extract 0 B)[k]?
  rw [Array.getElem?_extract]
  simp
  omega
theorem cutAt_below {w : World} {B : Nat} (h : B ≤ w.heap.size) : Below B (World.cutAt w B) w := ⟨rfl, rfl, rfl, by rw [cutAt_size h]; exact h, fun k hk => cutAt_block h hk⟩
theorem cutAt_rd {w : World} {B : Nat} (h : B ≤ w.heap.size) {a : Option Addr} {bl : List Int} (hR : Rd .i64 w a bl) (hb : bl ≠ [] → ∀ b o, a = some ⟨b, o, none⟩ → b < B) : Rd .i64 (World.cutAt w B) a bl := by
  intro hne
  obtain ⟨b, o, rfl, hc⟩ := hR hne
  refine ⟨b, o, rfl, fun j hj => ?_⟩
  rw [← hc j hj]
  exact World.cell?_of_block (cutAt_block h (hb hne b o rfl)).symm
theorem PSh.keptT {w w' : World} {B g : Nat} {v : Value} {l : List ShM} {S : List Nat} (h : PSh w B g v l) (hk : Kept S w w') (hg : g ∉ S) (hv : ∀ k, v.ownBlock = some k → k ∉ S) : PSh w' B g v l := by
  refine ⟨(hk.block g h.lt hg).trans h.box, ⟨h.own.1, ?_⟩, h.ne, h.le⟩
  rcases h.own.2 with h' | ⟨gb, cap, cur, h1, h2, h3, h4⟩
  · exact .inl h'
  · have hlt : gb < w.heap.size := (Array.getElem?_eq_some_iff.1 h3).1
    exact .inr ⟨gb, cap, cur, h1, h2, (hk.block gb hlt (hv gb (by rw [h1]; rfl))).trans h3, h4⟩
/-- Levels not far below nothing. -/
def Lw (L : List ShM) (c : Int) : Prop := ∀ i, i < L.length → -c ≤ (L.getD i .zero).lv ∧ (L.getD i .zero).lv ≤ 100000
theorem Lw.of {L : List ShM} (h : Lvl L) : Lw L 0 := fun i hi => by have := h i hi; omega
theorem Lw.fits {l : List ChM} {L : List ShM} {c : Int} (hV : Lw L c) (hc : c ≤ 1000000000) (h : Sames l L) (hO : OkAll l) : ∀ i, i < L.length → (L.getD i .zero).fits := fun i hi => by
  have h1 := hV i hi
  have hi' : i < l.length := by rw [← h.1]; exact hi
  have h2 := ok_bounds hO hi'
  rw [← h.2 i hi'] at h2
  exact ⟨⟨by omega, by omega⟩, h2.1, h2.2⟩
theorem Lw.grant {L : List ShM} {c : Int} {bl : List Int} {bytes : Int} (hV : Lw L c) (hG : grantOk L.length bl bytes) : Lw (lvAll L (grantM (lvs L) bl bytes (ordT L)).out) (c + 1000000) := fun i hi => by
  have hL : i < L.length := by unfold lvAll at hi; rw [lvTo_length] at hi; exact hi
  rw [lvAll_at _ hL]
  have h1 := hV i hL
  have h2 := (S2_ok hG L.length).each i (by rw [hG.1]; exact hL)
  rw [S_all] at h2
  have h3 := of_decide_eq_true (hG.2.2 i (by rw [hG.1]; exact hL))
  omega
theorem grant_out_len {L : List ShM} {bl : List Int} {bytes : Int} (hG : grantOk L.length bl bytes) : (grantM (lvs L) bl bytes (ordT L)).out.length = bl.length := by
  have := (S2_ok hG L.length).len
  rwa [S_all] at this
/-- Grant, whatever is asked. -/
theorem grant_uni (l : List ChM) (bl : List Int) (bytes : Int) (hO : OkAll l) : ∃ (gO : List ShM → List Int) (gN : List ShM → List ShM) (gE : Int), ∀ (L : List ShM) (c : Int), Sames l L → Lw L c → c ≤ 100000000 →
    ((gO L).length ≤ 1000 ∧ Sames l (gN L) ∧ Lw (gN L) (c + 1000000)) ∧ ∀ (w : World) (B g : Nat) (v : Value) (a : Option Addr) (nb cb : Nat), PSh w B g v L → Rd .i64 w a bl → (bl ≠ [] → ∀ b o, a = some ⟨b, o, none⟩ → b < B) → bl.length = nb → nb ≤ maxLen →
      Calls Tryd.prog 10 #[.pointer (some ⟨g, 0, none⟩), .slice a nb cb, .int .i64 bytes] w fun e w' => ∃ xv, e = .returned (.tuple #[xv, .int .i64 gE]) ∧ OwnI w' w.heap.size xv (gO L) ∧ PSh w' B g v (gN L) ∧ Kept (ownT v) w w' := by
  have h32 := ok_few (k := l.length) hO (Nat.le_refl _)
  by_cases hG : grantOk l.length bl bytes
  · refine ⟨fun L => (grantM (lvs L) bl bytes (ordT L)).out, fun L => lvAll L (grantM (lvs L) bl bytes (ordT L)).out, 0, fun L c hS hV hc => ?_⟩
    have hG' : grantOk L.length bl bytes := by rw [hS.1]; exact hG
    refine ⟨⟨by show (grantM (lvs L) bl bytes (ordT L)).out.length ≤ 1000; rw [grant_out_len hG', hG'.1, hS.1]; omega, hS.all _, hV.grant hG'⟩, ?_⟩
    intro w B g v a nb cb hP hR hb hnb hm
    have hB : B ≤ w.heap.size := Nat.le_of_lt (Nat.lt_of_le_of_lt hP.le hP.lt)
    refine (grant_goodK L bl bytes B g nb cb a v (World.cutAt w B) w hP (by rw [hS.1]; omega) (hS.apart hO) (hV.fits (by omega) hS hO) (cutAt_size hB) (cutAt_rd hB hR hb) (cutAt_below hB) hnb hm hG').mono ?_
    rintro e w' ⟨gg, rfl, h1, h2, h3, h4, h5⟩
    exact ⟨_, rfl, ownI_of_arr h1 h4 (by rw [grant_out_len hG', hnb]) hm, h2, h5⟩
  · refine ⟨fun _ => [], fun L => L, 1, fun L c hS hV hc => ⟨⟨by simp, hS, fun i hi => by have := hV i hi; exact ⟨by show -(c + 1000000) ≤ (L.getD i .zero).lv; omega, this.2⟩⟩, ?_⟩⟩
    intro w B g v a nb cb hP hR hb hnb hm
    refine (grant_bad L bl bytes B g nb cb a v w hP (by rw [hS.1]; omega) hR hnb hm (by rw [hS.1]; exact hG)).mono ?_
    rintro e w' ⟨rfl, rfl⟩
    exact ⟨_, rfl, OwnI.nil _ _, hP, Kept.refl _ _⟩
theorem new_uni (l : List ChM) {E : Int} (hE : (OkAll l ∧ E = 0) ∨ (¬ OkAll l ∧ E = 1)) (a : Option Addr) (nl c : Nat) (w : World) (hC : Chs w a l) (hnl : l.length = nl) (hm : nl ≤ maxLen) :
    Calls Tryd.prog 7 #[.slice a nl c] w fun e w' => ∃ ps, e = .returned (.tuple #[ps, .int .i64 E]) ∧ (OkAll l → ∃ v, ps = .pointer (some ⟨w.heap.size, 0, none⟩) ∧ PSh w' w.heap.size w.heap.size v (l.map shOf)) ∧ Below w.heap.size w w' := by
  refine (new_any l a nl c w hC hnl hm).mono ?_
  rintro e w' ⟨h1 | h1, h2⟩
  · rcases hE with ⟨h3, _⟩ | ⟨_, rfl⟩
    · exact absurd h3 h1.1
    · exact ⟨_, h1.2, fun h => absurd h h1.1, h2⟩
  · obtain ⟨h3, v, h4, h5⟩ := h1
    rcases hE with ⟨_, rfl⟩ | ⟨h6, _⟩
    · exact ⟨_, h4, fun _ => ⟨v, rfl, h5⟩, h2⟩
    · exact absurd h3 h6
theorem split_uni (s : ByteArray) (w : World) :
    Calls Tryd.prog 6 #[.string s] w fun e w' => ∃ v n ys er, e = .returned (.tuple #[v, .int .i64 er]) ∧ w'.ownsRow w.heap.size 31 2 v n ys ∧ n ≤ 1000000 ∧ Below w.heap.size w w' := by
  by_cases hs : 65535 < s.size
  · refine (split_large s w hs).mono ?_
    rintro e w' ⟨rfl, rfl⟩
    exact ⟨_, 0, [], _, rfl, World.ownsRow_nil _ _ _ _, by omega, Below.refl _ _⟩
  · refine (split_goodK s w (by omega)).mono ?_
    rintro e w' ⟨h1 | ⟨l, a, c, h1, h2, h3, h4⟩, hb⟩
    · exact ⟨_, 0, [], _, h1.2, World.ownsRow_nil _ _ _ _, by omega, hb⟩
    · exact ⟨_, _, _, _, h2, h3, by omega, hb⟩
theorem OwnI.keptM {w w' : World} {B : Nat} {v : Value} {L : List Int} {S : List Nat} (h : OwnI w B v L) (hk : Kept S w w') (hs : ∀ g, v.ownBlock = some g → g ∉ S) : OwnI w' B v L := by
  refine ⟨h.1, ?_⟩
  rcases h.2 with h' | ⟨g, cap, cur, h1, h2, h3, h4⟩
  · exact .inl h'
  · have hlt : g < w.heap.size := (Array.getElem?_eq_some_iff.1 h3).1
    exact .inr ⟨g, cap, cur, h1, h2, (hk.block g hlt (hs g (by rw [h1]; rfl))).trans h3, h4⟩
theorem rd_lt {w : World} {a : Option Addr} {bl : List Int} (h : Rd .i64 w a bl) (hne : bl ≠ []) : ∀ b o, a = some ⟨b, o, none⟩ → b < w.heap.size := fun b o e => by
  obtain ⟨b', o', e', hc⟩ := h hne
  rw [e'] at e
  simp only [Option.some.injEq, Addr.mk.injEq, and_true] at e
  obtain ⟨rfl, rfl⟩ := e
  have hl : 0 < bl.length := by
    rcases bl with _ | ⟨x, bl⟩
    · exact absurd rfl hne
    · simp
  exact World.block_lt_of_cell? w _ (hc 0 hl)
def mkC : ChM := ⟨-7, 0, 0, 0⟩
def mkU : UsM := ⟨-7, 0, 0⟩
def mkI : ItemM := ⟨-7, { data := #[] }⟩
/-- What stays all the while: what came in, and three lists with spare room. -/
structure Bag (w00 w : World) (gb gu gm : Nat) (bl : List Int) (us : List UsM) (its : List ItemM) : Prop where
  bel : Below w00.heap.size w00 w
  b : ArrAt .i64 3 w gb (bl ++ [-7, -7, -7])
  u : ArrDUs w gu (us ++ [mkU, mkU, mkU])
  m : ArrDIt w gm (its ++ [mkI, mkI, mkI])
theorem Bag.kept {w00 w w' : World} {gb gu gm : Nat} {bl : List Int} {us : List UsM} {its : List ItemM} {S : List Nat} (h : Bag w00 w gb gu gm bl us its) (hk : Kept S w w') (hS : ∀ x ∈ S, w00.heap.size ≤ x ∧ x ≠ gb ∧ x ≠ gu ∧ x ≠ gm) : Bag w00 w' gb gu gm bl us its :=
  ⟨h.bel.trans (hk.below h.bel.size (fun x hx => (hS x hx).1)), h.b.kept hk (fun e => (hS _ e).2.1 rfl), h.u.kept hk (fun e => (hS _ e).2.2.1 rfl), h.m.kept hk (fun e => (hS _ e).2.2.2 rfl)⟩
theorem Bag.below {w00 w w' : World} {gb gu gm : Nat} {bl : List Int} {us : List UsM} {its : List ItemM} (h : Bag w00 w gb gu gm bl us its) (hb : Below w.heap.size w w') : Bag w00 w' gb gu gm bl us its := h.kept (S := []) (Kept.of_below hb) (fun x hx => by cases hx)
theorem rd_front {k : IntKind} {T : TypeId} {w : World} {g : Nat} {L X : List Int} (h : ArrAt k T w g (L ++ X)) : Rd k w (some ⟨g, 0, none⟩) L := ArrAt.rd (A := []) (x := L) (Z := X) (by simpa using h) rfl
end Go.Proofs.YtmdfjhnibhmdkafDoor
