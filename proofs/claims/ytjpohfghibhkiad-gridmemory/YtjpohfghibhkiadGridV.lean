import Derived.Test.YtjpohfghibhkiadGridX
import Derived.DeepKeys4
import Derived.MapViews
namespace Go.Proofs.Ytjpohfghibhkiad
open Go.ChangeShapes Go.WideShapes Go.ChangeAt Go.RowKit Go.Maps

/-! A MAP BY PLACES: which places are somebody's. -/

def plV (p : Int × Int) : Value := .agg #[.int .i64 p.1, .int .i64 p.2]
theorem Try.widePl : (match Try.prog.underlying 39 with | some (.array _ _) | some (.struct _) => true | _ => false) = true := by rw [Try.underlying39]
theorem Try.rowPl : (39 : TypeId) < Try.prog.types.size := of_decide_eq_true (by kernel_rfl)
theorem Try.lawPl : Keyed Try.prog 39 := Keyed.of_law (deep_law_laid Try.laidOut (m := 2) (by omega) Try.rowPl (by kernel_rfl) Try.widePl)
theorem Try.keyPl : Try.prog.keyTypeAt (Try.prog.types.size + 1) 39 = true := by kernel_rfl
theorem Try.cellsPl : Try.prog.cellsOf 39 = 2 := by kernel_rfl
def WfP (p : Int × Int) : Prop := (Lit.int .i64 p.1).wf = true ∧ (Lit.int .i64 p.2).wf = true
def plKey (p : Int × Int) : Lit := (DataW.agg [.lit (.int .i64 p.1), .lit (.int .i64 p.2)] : DataW Unit).asKey
theorem keyOf_pl {p : Int × Int} (h : WfP p) : keyOf Try.prog 39 (plV p) = some (plKey p) := by
  have hf : (plV p).formed Try.prog 39 = true := by simp [plV, Value.formed, Try.underlying39, Try.cellsPl]
  have ht : DataW.Trod (fun _ => ()) Try.prog default 0 (fun _ => true) true 39 (plV p) (.agg [.lit (.int .i64 p.1), .lit (.int .i64 p.2)]) [] := by
    have c3 : Try.prog.cellsOf 3 = 1 := by kernel_rfl
    refine ⟨2, ?_⟩
    simp [DataW.trod, plV, Value.cells, Try.underlying39, Try.cellsPl, Try.underlying3, c3, h.1, h.2]
  exact (keyOf_asKey Try.keyPl Try.widePl hf ht).1
theorem plKey_inj {p q : Int × Int} (hp : WfP p) (hq : WfP q) (h : plKey p = plKey q) : p = q := by
  have h1 := keyOf_pl hp
  have h2 := keyOf_pl hq
  rw [← h] at h2
  have := Try.lawPl.inj h1 h2
  unfold plV at this
  simp only [Value.agg.injEq, Array.mk.injEq, List.cons.injEq, Value.int.injEq, true_and, and_true] at this
  exact Prod.ext this.1 this.2
/-- The places of S are marked, and no others. -/
def WhoMap (w : World) (gM : Nat) (S : List (Int × Int)) : Prop := ∃ D : DataW Unit, w.ownsMap Try.prog 39 (plainElem Try.prog 3) gM S.length D ∧ Maps.size D = S.length ∧ ∀ p, WfP p → p ∉ S → has D (plKey p) = false
theorem WhoMap.same {w w' : World} {gM : Nat} {S : List (Int × Int)} (h : WhoMap w gM S) (e : w'.heap[gM]? = w.heap[gM]?) : WhoMap w' gM S := by
  obtain ⟨D, ⟨es, clock, hb, r⟩, hD⟩ := h
  exact ⟨D, ⟨es, clock, e.trans hb, r⟩, hD⟩
theorem who_new (w : World) : WhoMap (w.alloc (.map #[] 0)) w.heap.size [] :=
  ⟨.map [], World.ownsMap_made w Try.prog 39 (plainElem Try.prog 3), rfl, fun _ _ _ => rfl⟩
theorem WhoMap.put {w w' : World} {gM : Nat} {S : List (Int × Int)} {D : DataW Unit} {p : Int × Int} {v : Int} (hown : w.ownsMap Try.prog 39 (plainElem Try.prog 3) gM S.length D) (hs : Maps.size D = S.length) (hD : ∀ p, WfP p → p ∉ S → has D (plKey p) = false) (hp : WfP p) (hn : p ∉ S)
    (hM : w'.ownsMap Try.prog 39 (plainElem Try.prog 3) gM (S.length + 1) (D.put (plKey p) (.lit (.int .i64 v)))) : WhoMap w' gM (S ++ [p]) := by
  refine ⟨_, by rw [List.length_append]; exact hM, ?_, fun q hq hqn => ?_⟩
  · rw [size_put (hown.tidy Try.lawPl), hD p hp hn, hs]
    simp
  · have hne : q ≠ p := fun e => hqn (by simp [e])
    have hqs : q ∉ S := fun e => hqn (by simp [e])
    rw [has_put_other (fun e => hne (plKey_inj hq hp e))]
    exact hD q hq hqs
end Go.Proofs.Ytjpohfghibhkiad
