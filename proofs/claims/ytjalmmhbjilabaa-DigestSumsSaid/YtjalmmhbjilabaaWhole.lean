/- Whole variables that are loaded in a region whose order is drawn. No program is imported here. -/
import Derived.Test.YtjalmmhbjilabaaWord2
import Derived.Deep.RegionHeld3
namespace Go.Proofs.Ytjalmmhbjilabaa
open Go.RowKit

/-- What stands in the block at whose head a pointer points. -/
def rowOf (w : World) (v : Value) : List Value :=
  match v with
  | .pointer (some a) => (match w.heap[a.block]? with | some (.cells c _ _) => c.toList | _ => [])
  | _ => []
/-- A whole variable of type T lies there. -/
def Rowy (P : Program) (T : TypeId) (w : World) (v : Value) : Prop :=
  ∃ b cs t fr d, v = .pointer (some ⟨b, 0, none⟩) ∧ w.heap[b]? = some (.cells (List.toArray cs) t fr) ∧ P.underlying T = some d ∧ d.isRow = true ∧ (P.info? T).map (·.size) = some cs.length
theorem rowOf_mk {w : World} {b : Nat} {cs : List Value} {t : TypeId} {fr : Nat × Nat} (h : w.heap[b]? = some (.cells cs.toArray t fr)) : rowOf w (.pointer (some ⟨b, 0, none⟩)) = cs := by
  simp [rowOf, h]
theorem run_load_whole {P : Program} {T : TypeId} {w : World} {ρ : Operand → Value} {dst : Option Tmp} {x : Operand} {ty : TypeId} {pos : String} {after : Array Edge} {guard : Option (Nat × Bool)} (h : Rowy P T w (ρ x)) :
    Sem.run P (execOp ρ { dst := dst, op := .load T x, type := ty, pos := pos, after := after, guard := guard }) w = .ok (.value (.agg (rowOf w (ρ x)).toArray)) w := by
  obtain ⟨b, cs, t, fr, d, hv, hb, hu, hd, hi⟩ := h
  unfold execOp
  simp only [hv, Sem.run_bind, run_loadAt_mid w b 0 T cs d (range_of_list hb) hu hd hi, Result.andThen_ok, rowOf_mk hb]
  rfl
/-- What a region that loads two whole variables keeps. -/
abbrev TwoS (P : Program) (T T' : TypeId) (w0 : World) (b b' : Nat) (cs cs' : List Value) (w : World) : Prop :=
  Rowy P T w (.pointer (some ⟨b, 0, none⟩)) ∧ rowOf w (.pointer (some ⟨b, 0, none⟩)) = cs ∧ Rowy P T' w (.pointer (some ⟨b', 0, none⟩)) ∧ rowOf w (.pointer (some ⟨b', 0, none⟩)) = cs' ∧ Below w0.heap.size w0 w
theorem rowOf_below {w w' : World} {b B : Nat} (hb : Below B w w') (h : b < B) : rowOf w' (.pointer (some ⟨b, 0, none⟩)) = rowOf w (.pointer (some ⟨b, 0, none⟩)) := by
  simp [rowOf, hb.block b h]
theorem Rowy.below {P : Program} {T : TypeId} {w w' : World} {b B : Nat} (h : Rowy P T w (.pointer (some ⟨b, 0, none⟩))) (hb : Below B w w') (hB : b < B) : Rowy P T w' (.pointer (some ⟨b, 0, none⟩)) := by
  obtain ⟨b2, cs, t, fr, d, hv, hc, r⟩ := h
  simp only [Value.pointer.injEq, Option.some.injEq, Addr.mk.injEq, and_true] at hv
  subst hv
  exact ⟨b, cs, t, fr, d, rfl, (hb.block b hB).trans hc, r⟩
theorem two_drew {P : Program} {T T' : TypeId} {w0 : World} {b b' : Nat} {cs cs' : List Value} {w : World} (h : TwoS P T T' w0 b b' cs cs' w) : TwoS P T T' w0 b b' cs cs' w.drew :=
  ⟨h.1, h.2.1, h.2.2.1, h.2.2.2.1, h.2.2.2.2.drew⟩
theorem two_step {P : Program} {T T' : TypeId} {w0 : World} {b b' : Nat} {cs cs' : List Value} {w w' : World} (hg : Hid (b < w0.heap.size ∧ b' < w0.heap.size)) (h : TwoS P T T' w0 b b' cs cs' w) (hb : Below w.heap.size w w') :
    TwoS P T T' w0 b b' cs cs' w' := by
  obtain ⟨h1, h2, h3, h4, h5⟩ := h
  have hz := h5.size
  have l1 : b < w.heap.size := by have := hg.out.1; omega
  have l2 : b' < w.heap.size := by have := hg.out.2; omega
  exact ⟨h1.below hb l1, (rowOf_below hb l1).trans h2, h3.below hb l2, (rowOf_below hb l2).trans h4, h5.trans (hb.mono hz)⟩
theorem two_mk {P : Program} {T T' : TypeId} {b b' : Nat} {cs cs' : List Value} {t t' : TypeId} {fr fr' : Nat × Nat} {d d' : TypeDesc} {w : World}
    (h : w.heap[b]? = some (.cells cs.toArray t fr)) (hu : P.underlying T = some d) (hd : d.isRow = true) (hi : (P.info? T).map (·.size) = some cs.length)
    (h' : w.heap[b']? = some (.cells cs'.toArray t' fr')) (hu' : P.underlying T' = some d') (hd' : d'.isRow = true) (hi' : (P.info? T').map (·.size) = some cs'.length) : TwoS P T T' w b b' cs cs' w :=
  ⟨⟨b, cs, t, fr, d, rfl, h, hu, hd, hi⟩, rowOf_mk h, ⟨b', cs', t', fr', d', rfl, h', hu', hd', hi'⟩, rowOf_mk h', Below.refl _ _⟩
end Go.Proofs.Ytjalmmhbjilabaa
