/- The chapter's examples. -/
import Derived.Test.YteanbflbclmeeaaGreatMSame
import Derived.Test.YteanbflbclmeeaaGreatMInv2
namespace Go.Proofs.YteanbflbclmeeaaGreat
open Go.RowKit

/-- A block of cells that a list makes. -/
theorem lit_src {w : World} {b : Nat} {l : List UInt8} {T : TypeId} (r c : Nat) (hl : l.length = r * c) (h : w.heap[b]? = some (.cells (l.map u8v).toArray T (0, 0))) : Src b 0 (matOf c l) r c w := by
  unfold Src
  rw [flat_matOf r c l hl]; exact range_of_list h
theorem lit_hand {w : World} {b n : Nat} {l : List UInt8} {T : TypeId} (hl : l.length = n) (h : w.heap[b]? = some (.cells (l.map u8v).toArray T (0, 0))) : Hand (some ⟨b, 0, none⟩) n n l w :=
  ⟨hl, Nat.le_refl _, fun _ => ⟨b, 0, rfl, lt_of_heap h, range_of_list h⟩⟩
theorem kIdent (w : World) : Calls Tryz.prog 61 #[.int .i64 2] w fun e w' => ∃ g, e = .returned (.tuple #[.agg #[.int .i64 2, .int .i64 2, .slice (some ⟨g, 0, none⟩) 4 4], .nilIface]) ∧ Hand (some ⟨g, 0, none⟩) 4 4 [1, 0, 0, 1] w' ∧ Below w.heap.size w w' := by
  refine (Identity_good 2 (by decide +kernel) (by decide) w).mono ?_
  rintro e w' ⟨V, E, rfl, hP, hb⟩
  rcases hP with ⟨_, rfl, g, N, rfl, _, rfl, hT⟩ | ⟨h, _⟩
  · refine ⟨g, rfl, ?_, hb⟩
    have := hT.hand rfl
    rw [show flat dl 2 2 = [1, 0, 0, 1] by decide +kernel] at this; exact this
  · exact absurd rfl h
theorem kCau (w : World) : Calls Tryz.prog 54 #[.int .i64 1, .int .i64 2] w fun e w' => ∃ g, e = .returned (.tuple #[.agg #[.int .i64 1, .int .i64 2, .slice (some ⟨g, 0, none⟩) 2 2], .nilIface]) ∧ Hand (some ⟨g, 0, none⟩) 2 2 [142, 244] w' ∧ Below w.heap.size w w' := by
  refine (Cauchy_good 1 2 (by decide +kernel) (by decide +kernel) (by decide) w).mono ?_
  rintro e w' ⟨V, E, rfl, hP, hb⟩
  rcases hP with ⟨_, rfl, g, N, rfl, _, rfl, hT⟩ | ⟨h, _⟩
  · refine ⟨g, rfl, ?_, hb⟩
    have := hT.hand rfl
    rw [show flat (cauM 2) 1 2 = [142, 244] by decide +kernel] at this; exact this
  · exact absurd rfl h
theorem kInvert (b1 : Nat) (T1 : TypeId) (w : World) (h1 : w.heap[b1]? = some (.cells (([1, 2, 2, 4] : List UInt8).map u8v).toArray T1 (0, 0))) :
    Calls Tryz.prog 39 #[.agg #[.int .i64 2, .int .i64 2, .slice (some ⟨b1, 0, none⟩) 4 4]] w fun e w' => ∃ g, e = .returned (.tuple #[noneV, faultV g]) ∧ FaultAt g 18 0 w' ∧ Below w.heap.size w w' := by
  refine (Invert_sq 2 b1 0 4 4 (matOf 2 [1, 2, 2, 4]) (by decide) (by decide) rfl (by decide) (by decide) w (lit_src 2 2 rfl h1) (lt_of_heap h1)).mono ?_
  rintro e w' ⟨V, E, rfl, hP, hb⟩
  rcases hP with ⟨h, _⟩ | ⟨_, hP⟩
  · exact absurd h (by decide +kernel)
  · rcases hP with ⟨h, _⟩ | ⟨_, _, _, rfl, g, _, rfl, hF⟩
    · exact absurd h (by decide)
    · exact ⟨g, rfl, hF, hb⟩
theorem kApply (b1 b2 : Nat) (T1 T2 : TypeId) (w : World) (h1 : w.heap[b1]? = some (.cells (([1, 2] : List UInt8).map u8v).toArray T1 (0, 0))) (h2 : w.heap[b2]? = some (.cells [Value.string ⟨#[5]⟩, Value.string ⟨#[3]⟩].toArray T2 (0, 0))) :
    Calls Tryz.prog 40 #[.agg #[.int .i64 1, .int .i64 2, .slice (some ⟨b1, 0, none⟩) 2 2], .slice (some ⟨b2, 0, none⟩) 2 2] w fun e w' => ∃ h, e = .returned (.tuple #[.slice (some ⟨h, 0, none⟩) 1 1, .nilIface]) ∧ w'.cell? ⟨h, 0, none⟩ = some (.string ⟨#[3]⟩) ∧ w.heap.size ≤ h ∧ h < w'.heap.size ∧ Below w.heap.size w w' := by
  obtain ⟨f, hf⟩ : ∃ f : Nat → ByteArray, f = fun j => if j = 0 then ⟨#[5]⟩ else ⟨#[3]⟩ := ⟨_, rfl⟩
  have hT : Texts b2 0 2 f w := fun j hj => by
    rw [Nat.zero_add, cell_of_list h2, hf]
    rcases Nat.lt_or_ge j 1 with h | h
    · obtain rfl : j = 0 := by omega
      rfl
    · obtain rfl : j = 1 := by omega
      rfl
  refine (Apply_good 1 2 b1 0 2 2 b2 0 2 1 (matOf 2 [1, 2]) f (by decide) (by decide) (by decide) (by decide) rfl (by decide) (by decide) (fun j _ => by rw [hf]; show (if j = 0 then _ else _ : ByteArray).size = 1; split <;> rfl) w (lit_src 1 2 rfl h1) (lt_of_heap h1) hT (lt_of_heap h2)).mono ?_
  rintro e w' ⟨h, hh, rfl, hs, hb⟩
  refine ⟨h, rfl, ?_, hh, hs.lt, hb⟩
  rw [hs.got (k := 0) (by decide) (by decide), hf]
  congr 2
  decide +kernel
/-- A box with a matrix of so many cells. -/
def BoxA (B : Nat) (r c : Int) (g n : Nat) (l : List UInt8) (w : World) : Prop := w.heap[B]? = some (.cells [Value.int .i64 r, .int .i64 c, .slice (some ⟨g, 0, none⟩) n n].toArray 62 (0, 0)) ∧ Hand (some ⟨g, 0, none⟩) n n l w
theorem BoxA.below {B : Nat} {r c : Int} {g n : Nat} {l : List UInt8} {w w' : World} (h : BoxA B r c g n l w) (hb : Below w.heap.size w w') : BoxA B r c g n l w' := ⟨(hb.block B (lt_of_heap h.1)).trans h.1, h.2.below hb rfl⟩
theorem BoxA.of {r c : Int} {g n : Nat} {l : List UInt8} {w1 w2 : World} {o : Obj} (h2 : w2.heap[w1.heap.size]? = some (.cells [Value.int .i64 r, .int .i64 c, .slice (some ⟨g, 0, none⟩) n n].toArray 62 (0, 0))) (k2 : Kept (w1.alloc o).heap.size [w1.heap.size] (w1.alloc o) w2) (h : Hand (some ⟨g, 0, none⟩) n n l w1) : BoxA w1.heap.size r c g n l w2 ∧ Below w1.heap.size w1 w2 := by
  have hb : Below w1.heap.size w1 w2 := below_kept ((Below.refl _ _).alloc (Nat.le_refl _) _) k2 (Nat.le_refl _) (by simp)
  exact ⟨⟨h2, h.below hb rfl⟩, hb⟩
theorem mat_ones (r c : Int) (g n : Nat) : ∀ v ∈ [Value.int .i64 r, .int .i64 c, .slice (some ⟨g, 0, none⟩) n n], v.oneCell' = true := fun v hv => by simp at hv; rcases hv with rfl | rfl | rfl <;> rfl
/-- A block of bytes that was written out. -/
def Lit (b : Nat) (l : List UInt8) (w : World) : Prop := w.heap[b]? = some (.cells (l.map u8v).toArray 5 (0, 0))
theorem Lit.below {b : Nat} {l : List UInt8} {w w' : World} (h : Lit b l w) (hb : Below w.heap.size w w') : Lit b l w' := (hb.block b (lt_of_heap h)).trans h
theorem Lit.new (l : List UInt8) (w : World) : Lit w.heap.size l (w.alloc (.cells (l.map u8v).toArray 5)) := heap_alloc_new _ _
theorem below_alloc (w : World) (o : Obj) : Below w.heap.size w (w.alloc o) := (Below.refl _ _).alloc (Nat.le_refl _) _
/-- What stands while answers are asked. -/
structure KSt (w0 : World) (t1 g1 t2 g2 t3 g3 g4 h : Nat) (v : World) : Prop where
  y : BoxA t1 2 2 g1 4 [1, 0, 0, 1] v
  z : BoxA t2 1 2 g2 2 [142, 244] v
  x : BoxA t3 2 1 g3 2 [3, 7] v
  f : FaultAt g4 18 0 v
  c : v.cell? ⟨h, 0, none⟩ = some (.string ⟨#[3]⟩)
  hl : h < v.heap.size
  old : Below w0.heap.size w0 v
theorem KSt.below {w0 : World} {t1 g1 t2 g2 t3 g3 g4 h : Nat} {v v' : World} (k : KSt w0 t1 g1 t2 g2 t3 g3 g4 h v) (hb : Below v.heap.size v v') : KSt w0 t1 g1 t2 g2 t3 g3 g4 h v' :=
  ⟨k.y.below hb, k.z.below hb, k.x.below hb, k.f.keep (hb.block g4 k.f.lt), (hb.cell (p := ⟨h, 0, none⟩) k.hl).trans k.c, Nat.lt_of_lt_of_le k.hl hb.size, k.old.trans (hb.mono k.old.size)⟩
theorem KSt.drew {w0 : World} {t1 g1 t2 g2 t3 g3 g4 h : Nat} {v : World} (k : KSt w0 t1 g1 t2 g2 t3 g3 g4 h v) : KSt w0 t1 g1 t2 g2 t3 g3 g4 h v.drew := k.below (Below.refl _ _).drew
end Go.Proofs.YteanbflbclmeeaaGreat
