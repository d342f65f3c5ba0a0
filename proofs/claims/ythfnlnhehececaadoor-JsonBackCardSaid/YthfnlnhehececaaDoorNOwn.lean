/- A value in memory: what is read; what a call has made for itself. -/
import Derived.Test.YthfnlnhehececaaDoorNTxt
import Derived.Test.YthfnlnhehececaaDoorNNum
namespace Go.Proofs.YthfnlnhehececaaDoor
open Go.RowKit

def strV (l : List UInt8) : Value := .string (bs l)
/-- A value's four parts. -/
def jv (k : Int) (t : List UInt8) (nv kv : Value) : Value := .agg #[.int .i64 k, .string (bs t), nv, kv]
def partsV : Value → List Value
  | .agg a => a.toList
  | _ => []
def flat (vs : List Value) : List Value := vs.flatMap partsV
/-- A value of four parts, each of one cell. -/
def Four (v : Value) : Prop := ∃ k t nv kv, v = .agg #[.int .i64 k, .string t, nv, kv] ∧ nv.oneCell' = true ∧ kv.oneCell' = true
theorem Four.len {v : Value} (h : Four v) : (partsV v).length = 4 := by obtain ⟨k, t, nv, kv, rfl, _⟩ := h; rfl
theorem flat_len {vs : List Value} (h : ∀ v ∈ vs, Four v) : (flat vs).length = vs.length * 4 := by
  induction vs with
  | nil => rfl
  | cons v r ih =>
    simp only [flat, List.flatMap_cons, List.length_append, List.length_cons]
    rw [(h v (by simp)).len]
    have := ih (fun u hu => h u (by simp [hu]))
    unfold flat at this
    omega
theorem flat_get {vs : List Value} (h : ∀ v ∈ vs, Four v) : ∀ (i c : Nat) (v : Value), vs[i]? = some v → c < 4 → (flat vs)[4 * i + c]? = (partsV v)[c]? := by
  induction vs with
  | nil => intro i c v hi; simp at hi
  | cons u r ih =>
    intro i c v hi hc
    have hu := (h u (by simp)).len
    cases i with
    | zero =>
      obtain rfl : u = v := by simpa using hi
      simp only [flat, List.flatMap_cons, Nat.mul_zero, Nat.zero_add]
      rw [List.getElem?_append_left (by omega)]
    | succ i =>
      have := ih (fun x hx => h x (by simp [hx])) i c v (by simpa using hi) hc
      simp only [flat, List.flatMap_cons]
      rw [List.getElem?_append_right (by omega), hu, show 4 * (i + 1) + c - 4 = 4 * i + c by omega]
      exact this
theorem flat_snoc (vs : List Value) (v : Value) : flat (vs ++ [v]) = flat vs ++ partsV v := by simp [flat]
/-- A value lies in four cells. -/
def Lies (w : World) (g o : Nat) (v : Value) : Prop := ∃ a b c d, v = .agg #[a, b, c, d] ∧ w.cell? ⟨g, o, none⟩ = some a ∧ w.cell? ⟨g, o + 1, none⟩ = some b ∧ w.cell? ⟨g, o + 2, none⟩ = some c ∧ w.cell? ⟨g, o + 3, none⟩ = some d
/-- Names as they are read, in blocks of F. -/
def NsAt (w : World) (F : Nat → Prop) (nv : Value) (ns : List (List UInt8)) : Prop :=
  (ns = [] ∧ ∃ a c, nv = .slice a 0 c) ∨ ∃ g o c, nv = .slice (some ⟨g, o, none⟩) ns.length c ∧ ns.length ≤ c ∧ F g ∧ g < w.heap.size ∧ ∀ i x, ns[i]? = some x → w.cell? ⟨g, o + i, none⟩ = some (.string (bs x))
def KsAt (w : World) (F : Nat → Prop) (kv : Value) (vs : List Value) : Prop :=
  (vs = [] ∧ ∃ a c, kv = .slice a 0 c) ∨ ∃ g o c, kv = .slice (some ⟨g, o, none⟩) vs.length c ∧ vs.length ≤ c ∧ F g ∧ g < w.heap.size ∧ ∀ i v, vs[i]? = some v → Lies w g (o + 4 * i) v
/-- A value as it is read, in blocks of F. -/
inductive At (w : World) (F : Nat → Prop) : Js.J → Value → Prop
  | mk (k : Int) (t : List UInt8) (ns : List (List UInt8)) (ks : List Js.J) (nv kv : Value) (vs : List Value) (hn : NsAt w F nv ns) (hk : KsAt w F kv vs) (hl : vs.length = ks.length)
      (hs : ∀ (i : Nat) (j : Js.J) (v : Value), ks[i]? = some j → vs[i]? = some v → At w F j v) : At w F (.mk k t ns ks) (jv k t nv kv)
theorem NsAt.frame {w w' : World} {F G : Nat → Prop} {nv : Value} {ns : List (List UInt8)} (h : NsAt w F nv ns) (hF : ∀ g, F g → G g) (hs : w.heap.size ≤ w'.heap.size) (hb : ∀ g, F g → g < w.heap.size → w'.heap[g]? = w.heap[g]?) : NsAt w' G nv ns := by
  rcases h with h | ⟨g, o, c, h1, h2, h3, h4, h5⟩
  · exact Or.inl h
  · exact Or.inr ⟨g, o, c, h1, h2, hF g h3, by omega, fun i x hx => (World.cell?_of_block (w := w) (a := ⟨g, o + i, none⟩) (hb g h3 h4)).trans (h5 i x hx)⟩
theorem Lies.frame {w w' : World} {g o : Nat} {v : Value} (h : Lies w g o v) (hb : w'.heap[g]? = w.heap[g]?) : Lies w' g o v := by
  obtain ⟨a, b, c, d, e, h0, h1, h2, h3⟩ := h
  have k : ∀ o, w'.cell? ⟨g, o, none⟩ = w.cell? ⟨g, o, none⟩ := fun o => World.cell?_of_block (w := w) (a := ⟨g, o, none⟩) hb
  exact ⟨a, b, c, d, e, (k _).trans h0, (k _).trans h1, (k _).trans h2, (k _).trans h3⟩
theorem KsAt.frame {w w' : World} {F G : Nat → Prop} {kv : Value} {vs : List Value} (h : KsAt w F kv vs) (hF : ∀ g, F g → G g) (hs : w.heap.size ≤ w'.heap.size) (hb : ∀ g, F g → g < w.heap.size → w'.heap[g]? = w.heap[g]?) : KsAt w' G kv vs := by
  rcases h with h | ⟨g, o, c, h1, h2, h3, h4, h5⟩
  · exact Or.inl h
  · exact Or.inr ⟨g, o, c, h1, h2, hF g h3, by omega, fun i x hx => (h5 i x hx).frame (hb g h3 h4)⟩
theorem At.frame {w w' : World} {F G : Nat → Prop} {j : Js.J} {v : Value} (h : At w F j v) (hF : ∀ g, F g → G g) (hs : w.heap.size ≤ w'.heap.size) (hb : ∀ g, F g → g < w.heap.size → w'.heap[g]? = w.heap[g]?) : At w' G j v := by
  induction h with
  | mk k t ns ks nv kv vs hn hk hl _ ih => exact .mk k t ns ks nv kv vs (hn.frame hF hs hb) (hk.frame hF hs hb) hl ih
/-- A row that a call has made for itself, among the blocks from lo on to hi. -/
def InRow (lo hi : Nat) (v : Value) : Prop := ∀ g, v.ownBlock = some g → lo ≤ g ∧ g < hi
/-- A value that a call has made for itself: its blocks lie from lo on to hi, those of each kid apart from one another and from the two rows. -/
inductive Own (w : World) : Nat → Nat → Js.J → Value → Prop
  | mk (lo hi : Nat) (k : Int) (t : List UInt8) (ns : List (List UInt8)) (ks : List Js.J) (nv kv : Value) (vs : List Value) (iv : Nat → Nat × Nat)
      (hn : w.ownsRow lo 9 1 nv ns.length (ns.map strV)) (hk : w.ownsRow lo 25 4 kv vs.length (flat vs)) (hf : ∀ v ∈ vs, Four v) (hl : vs.length = ks.length)
      (hnb : InRow lo hi nv) (hkb : InRow lo hi kv)
      (hiv : ∀ i, i < ks.length → lo ≤ (iv i).1 ∧ (iv i).2 ≤ hi) (hsep : ∀ i j, i < j → j < ks.length → (iv i).2 ≤ (iv j).1)
      (hno : ∀ i g, i < ks.length → (nv.ownBlock = some g ∨ kv.ownBlock = some g) → ¬ ((iv i).1 ≤ g ∧ g < (iv i).2))
      (hs : ∀ (i : Nat) (j : Js.J) (v : Value), ks[i]? = some j → vs[i]? = some v → Own w (iv i).1 (iv i).2 j v) : Own w lo hi (.mk k t ns ks) (jv k t nv kv)
/-- Names and kids that a call is collecting. -/
structure Acc (w : World) (lo hi : Nat) (nv kv : Value) (ns : List (List UInt8)) (ks : List Js.J) (vs : List Value) (iv : Nat → Nat × Nat) : Prop where
  hn : w.ownsRow lo 9 1 nv ns.length (ns.map strV)
  hk : w.ownsRow lo 25 4 kv vs.length (flat vs)
  hf : ∀ v ∈ vs, Four v
  hl : vs.length = ks.length
  hnb : InRow lo hi nv
  hkb : InRow lo hi kv
  hiv : ∀ i, i < ks.length → lo ≤ (iv i).1 ∧ (iv i).2 ≤ hi
  hsep : ∀ i j, i < j → j < ks.length → (iv i).2 ≤ (iv j).1
  hno : ∀ i g, i < ks.length → (nv.ownBlock = some g ∨ kv.ownBlock = some g) → ¬ ((iv i).1 ≤ g ∧ g < (iv i).2)
  hs : ∀ (i : Nat) (j : Js.J) (v : Value), ks[i]? = some j → vs[i]? = some v → Own w (iv i).1 (iv i).2 j v
theorem Acc.own {w : World} {lo hi : Nat} {nv kv : Value} {ns : List (List UInt8)} {ks : List Js.J} {vs : List Value} {iv : Nat → Nat × Nat} (h : Acc w lo hi nv kv ns ks vs iv) (k : Int) (t : List UInt8) : Own w lo hi (.mk k t ns ks) (jv k t nv kv) :=
  .mk lo hi k t ns ks nv kv vs iv h.hn h.hk h.hf h.hl h.hnb h.hkb h.hiv h.hsep h.hno h.hs
theorem ownsRow_frame {w w' : World} {B size n : Nat} {e : TypeId} {v : Value} {xs : List Value} (h : w.ownsRow B e size v n xs) (hb : ∀ g, v.ownBlock = some g → w'.heap[g]? = w.heap[g]?) : w'.ownsRow B e size v n xs := by
  refine ⟨h.1, ?_⟩
  rcases h.2 with h0 | ⟨g, cap, cur, h0, hB, hg, r⟩
  · exact Or.inl h0
  · exact Or.inr ⟨g, cap, cur, h0, hB, (hb g (by rw [h0]; rfl)).trans hg, r⟩
theorem Own.frame {w w' : World} {lo hi : Nat} {j : Js.J} {v : Value} (h : Own w lo hi j v) (hb : ∀ g, lo ≤ g → g < hi → w'.heap[g]? = w.heap[g]?) : Own w' lo hi j v := by
  induction h with
  | mk lo hi k t ns ks nv kv vs iv hn hk hf hl hnb hkb hiv hsep hno hs ih =>
    refine .mk lo hi k t ns ks nv kv vs iv (ownsRow_frame hn fun g hg => hb g (hnb g hg).1 (hnb g hg).2) (ownsRow_frame hk fun g hg => hb g (hkb g hg).1 (hkb g hg).2) hf hl hnb hkb hiv hsep hno ?_
    intro i j v hj hv
    have hi' := hiv i (List.getElem?_eq_some_iff.1 hj).1
    exact ih i j v hj hv (fun g h1 h2 => hb g (by omega) (by omega))
theorem ownsRow_mono {w : World} {B B' size n : Nat} {e : TypeId} {v : Value} {xs : List Value} (h : w.ownsRow B e size v n xs) (hB : B' ≤ B) : w.ownsRow B' e size v n xs := by
  refine ⟨h.1, ?_⟩
  rcases h.2 with h0 | ⟨g, cap, cur, h0, hB2, r⟩
  · exact Or.inl h0
  · exact Or.inr ⟨g, cap, cur, h0, by omega, r⟩
theorem Own.mono {w : World} {lo hi lo' hi' : Nat} {j : Js.J} {v : Value} (h : Own w lo hi j v) (h1 : lo' ≤ lo) (h2 : hi ≤ hi') : Own w lo' hi' j v := by
  cases h with
  | mk _ _ k t ns ks nv kv vs iv hn hk hf hl hnb hkb hiv hsep hno hs =>
    refine .mk lo' hi' k t ns ks nv kv vs iv (ownsRow_mono hn h1) (ownsRow_mono hk h1) hf hl (fun g hg => by have := hnb g hg; omega) (fun g hg => by have := hkb g hg; omega) (fun i hi => by have := hiv i hi; omega) hsep hno hs
theorem Own.four {w : World} {lo hi : Nat} {j : Js.J} {v : Value} (h : Own w lo hi j v) : Four v := by
  cases h with
  | mk _ _ k t ns ks nv kv vs iv hn hk hf hl hnb hkb hiv hsep hno hs =>
    refine ⟨k, bs t, nv, kv, rfl, ?_, ?_⟩
    · rcases hn.2 with ⟨h0, _⟩ | ⟨g, cap, cur, h0, _⟩ <;> rw [h0] <;> rfl
    · rcases hk.2 with ⟨h0, _⟩ | ⟨g, cap, cur, h0, _⟩ <;> rw [h0] <;> rfl
/-- What was made can be read. -/
theorem Own.at_ {w : World} {lo hi : Nat} {j : Js.J} {v : Value} {F : Nat → Prop} (h : Own w lo hi j v) (hF : ∀ g, lo ≤ g → g < hi → F g) : At w F j v := by
  induction h with
  | mk lo hi k t ns ks nv kv vs iv hn hk hf hl hnb hkb hiv hsep hno hs ih =>
    refine .mk k t ns ks nv kv vs ?_ ?_ hl ?_
    · rcases hn.2 with ⟨h0, h1⟩ | ⟨g, cap, cur, h0, hB, hg, hc, hm, hsz, hx⟩
      · exact Or.inl ⟨List.eq_nil_of_length_eq_zero h1, none, 0, by rw [h0]⟩
      · refine Or.inr ⟨g, 0, cap, h0, hc, hF g hB (hnb g (by rw [h0]; rfl)).2, lt_of_heap hg, fun i x hx2 => ?_⟩
        have hn2 := hn
        rw [h0] at hn2
        have := hn2.cellAt i (by have := (List.getElem?_eq_some_iff.1 hx2).1; omega)
        rw [Nat.zero_add, this, List.getElem?_map, hx2]; rfl
    · rcases hk.2 with ⟨h0, h1⟩ | ⟨g, cap, cur, h0, hB, hg, hc, hm, hsz, hx⟩
      · exact Or.inl ⟨List.eq_nil_of_length_eq_zero h1, none, 0, by rw [h0]⟩
      · refine Or.inr ⟨g, 0, cap, h0, hc, hF g hB (hkb g (by rw [h0]; rfl)).2, lt_of_heap hg, fun i x hx2 => ?_⟩
        obtain ⟨a, b, c, d, rfl, _, _⟩ := hf x (List.mem_of_getElem? hx2)
        have hi2 := (List.getElem?_eq_some_iff.1 hx2).1
        have cell : ∀ q, q < 4 → w.cell? ⟨g, 4 * i + q, none⟩ = (partsV (.agg #[.int .i64 a, .string b, c, d]))[q]? := fun q hq => by
          have hk2 := hk
          rw [h0] at hk2
          rw [hk2.cellAt (4 * i + q) (by omega)]
          exact flat_get hf i q _ hx2 hq
        refine ⟨_, _, _, _, rfl, ?_, ?_, ?_, ?_⟩
        · rw [Nat.zero_add]; exact cell 0 (by omega)
        · rw [Nat.zero_add]; exact cell 1 (by omega)
        · rw [Nat.zero_add]; exact cell 2 (by omega)
        · rw [Nat.zero_add]; exact cell 3 (by omega)
    · intro i j v hj hv
      have hi' := hiv i (List.getElem?_eq_some_iff.1 hj).1
      exact ih i j v hj hv (fun g h1 h2 => hF g (by omega) (by omega))
theorem own_block {w : World} {B size n g : Nat} {e : TypeId} {v : Value} {xs : List Value} (h : w.ownsRow B e size v n xs) (hg : v.ownBlock = some g) : ∃ cur fr, w.heap[g]? = some (.cells cur e fr) := by
  rcases h.2 with ⟨h0, _⟩ | ⟨g', cap, cur, h0, _, hg', _⟩
  · rw [h0] at hg; cases hg
  · rw [h0] at hg
    obtain rfl : g' = g := by simpa [Value.ownBlock] using hg
    exact ⟨cur, _, hg'⟩
theorem own_apart {w : World} {B B' size size' n n' g : Nat} {e e' : TypeId} {v v' : Value} {xs xs' : List Value} (h : w.ownsRow B e size v n xs) (h' : w.ownsRow B' e' size' v' n' xs') (he : e ≠ e') (hg : v.ownBlock = some g) : v'.ownBlock ≠ some g := by
  intro hg'
  obtain ⟨c1, f1, h1⟩ := own_block h hg
  obtain ⟨c2, f2, h2⟩ := own_block h' hg'
  rw [h1] at h2
  simp only [Option.some.injEq, Obj.cells.injEq] at h2
  exact he h2.2.1
theorem Acc.none {w : World} (lo : Nat) : Acc w lo lo (.slice none 0 0) (.slice none 0 0) [] [] [] (fun _ => (lo, lo)) where
  hn := ⟨rfl, Or.inl ⟨rfl, rfl⟩⟩
  hk := ⟨rfl, Or.inl ⟨rfl, rfl⟩⟩
  hf := fun v hv => by cases hv
  hl := rfl
  hnb := fun g hg => by cases hg
  hkb := fun g hg => by cases hg
  hiv := fun i hi => by simp at hi
  hsep := fun i j _ hj => by simp at hj
  hno := fun i g hi _ => by simp at hi
  hs := fun i j v hj => by simp at hj
section
variable {w w' : World} {lo hi hi' : Nat} {nv kv nv' kv' : Value} {ns : List (List UInt8)} {ks : List Js.J} {vs : List Value} {iv : Nat → Nat × Nat}
theorem Acc.frame (h : Acc w lo hi nv kv ns ks vs iv) (hb : ∀ g, lo ≤ g → g < hi → w'.heap[g]? = w.heap[g]?) : Acc w' lo hi nv kv ns ks vs iv where
  hn := ownsRow_frame h.hn fun g hg => hb g (h.hnb g hg).1 (h.hnb g hg).2
  hk := ownsRow_frame h.hk fun g hg => hb g (h.hkb g hg).1 (h.hkb g hg).2
  hf := h.hf
  hl := h.hl
  hnb := h.hnb
  hkb := h.hkb
  hiv := h.hiv
  hsep := h.hsep
  hno := h.hno
  hs := fun i j v hj hv => (h.hs i j v hj hv).frame fun g h1 h2 => by
    have := h.hiv i (List.getElem?_eq_some_iff.1 hj).1
    exact hb g (by omega) (by omega)
theorem Acc.up (h : Acc w lo hi nv kv ns ks vs iv) (hh : hi ≤ hi') : Acc w lo hi' nv kv ns ks vs iv where
  hn := h.hn
  hk := h.hk
  hf := h.hf
  hl := h.hl
  hnb := fun g hg => by have := h.hnb g hg; omega
  hkb := fun g hg => by have := h.hkb g hg; omega
  hiv := fun i hi => by have := h.hiv i hi; omega
  hsep := h.hsep
  hno := h.hno
  hs := h.hs
theorem Acc.name (h : Acc w lo hi nv kv ns ks vs iv) (x : List UInt8) (hn' : w'.ownsRow lo 9 1 nv' (ns ++ [x]).length ((ns ++ [x]).map strV)) (hb : ∀ g, lo ≤ g → g < hi → nv.ownBlock ≠ some g → w'.heap[g]? = w.heap[g]?)
    (hw : nv'.ownBlock = nv.ownBlock ∨ ∀ g, nv'.ownBlock = some g → hi ≤ g ∧ g < hi') (hh : hi ≤ hi') (hlo : lo ≤ hi) : Acc w' lo hi' nv' kv (ns ++ [x]) ks vs iv where
  hn := hn'
  hk := ownsRow_frame h.hk fun g hg => hb g (h.hkb g hg).1 (h.hkb g hg).2 (own_apart h.hk h.hn (by decide) hg)
  hf := h.hf
  hl := h.hl
  hnb := fun g hg => by
    rcases hw with e | e
    · rw [e] at hg; have := h.hnb g hg; omega
    · have := e g hg; omega
  hkb := fun g hg => by have := h.hkb g hg; omega
  hiv := fun i hi => by have := h.hiv i hi; omega
  hsep := h.hsep
  hno := fun i g hi hg => by
    have h2 := h.hiv i hi
    rcases hg with hg | hg
    · rcases hw with e | e
      · rw [e] at hg; exact h.hno i g hi (Or.inl hg)
      · have := e g hg; omega
    · exact h.hno i g hi (Or.inr hg)
  hs := fun i j v hj hv => (h.hs i j v hj hv).frame fun g h1 h2 => by
    have hi2 := (List.getElem?_eq_some_iff.1 hj).1
    have := h.hiv i hi2
    exact hb g (by omega) (by omega) (fun e => h.hno i g hi2 (Or.inl e) ⟨h1, h2⟩)
theorem Acc.kid (h : Acc w lo hi nv kv ns ks vs iv) {j : Js.J} {v : Value} {a b : Nat} (hk' : w'.ownsRow lo 25 4 kv' (vs.length + 1) (flat vs ++ partsV v)) (hb : ∀ g, lo ≤ g → g < hi → kv.ownBlock ≠ some g → w'.heap[g]? = w.heap[g]?)
    (ho : Own w' a b j v) (ha : hi ≤ a) (hb' : b ≤ hi') (hw : kv'.ownBlock = kv.ownBlock ∨ ∀ g, kv'.ownBlock = some g → hi ≤ g ∧ g < hi' ∧ ¬ (a ≤ g ∧ g < b)) (hh : hi ≤ hi') (hlo : lo ≤ hi) :
    Acc w' lo hi' nv kv' ns (ks ++ [j]) (vs ++ [v]) (fun i => if i = ks.length then (a, b) else iv i) where
  hn := ownsRow_frame h.hn fun g hg => hb g (h.hnb g hg).1 (h.hnb g hg).2 (own_apart h.hn h.hk (by decide) hg)
  hk := by rw [flat_snoc, List.length_append]; exact hk'
  hf := fun u hu => by
    rcases List.mem_append.1 hu with hu | hu
    · exact h.hf u hu
    · rw [List.mem_singleton.1 hu]; exact ho.four
  hl := by rw [List.length_append, List.length_append, h.hl]; rfl
  hnb := fun g hg => by have := h.hnb g hg; omega
  hkb := fun g hg => by
    rcases hw with e | e
    · rw [e] at hg; have := h.hkb g hg; omega
    · have := e g hg; omega
  hiv := fun i hi2 => by
    rw [List.length_append, List.length_singleton] at hi2
    by_cases e : i = ks.length
    · simp only [if_pos e]; omega
    · simp only [if_neg e]; have := h.hiv i (by omega); omega
  hsep := fun i k hik hk2 => by
    rw [List.length_append, List.length_singleton] at hk2
    have hi2 : i ≠ ks.length := by omega
    simp only [if_neg hi2]
    by_cases e : k = ks.length
    · simp only [if_pos e]; have := h.hiv i (by omega); omega
    · simp only [if_neg e]; exact h.hsep i k hik (by omega)
  hno := fun i g hi2 hg => by
    rw [List.length_append, List.length_singleton] at hi2
    by_cases e : i = ks.length
    · simp only [if_pos e]
      rcases hg with hg | hg
      · have := h.hnb g hg; omega
      · rcases hw with e2 | e2
        · rw [e2] at hg; have := h.hkb g hg; omega
        · exact (e2 g hg).2.2
    · simp only [if_neg e]
      have h2 := h.hiv i (by omega)
      rcases hg with hg | hg
      · exact h.hno i g (by omega) (Or.inl hg)
      · rcases hw with e2 | e2
        · rw [e2] at hg; exact h.hno i g (by omega) (Or.inr hg)
        · have := e2 g hg; omega
  hs := fun i j' v' hj hv => by
    by_cases e : i = ks.length
    · simp only [if_pos e]
      subst e
      rw [List.getElem?_append_right (Nat.le_refl _), Nat.sub_self] at hj
      rw [← h.hl, List.getElem?_append_right (Nat.le_refl _), Nat.sub_self] at hv
      obtain rfl : j = j' := by simpa using hj
      obtain rfl : v = v' := by simpa using hv
      exact ho
    · simp only [if_neg e]
      have hi2 := (List.getElem?_eq_some_iff.1 hj).1
      rw [List.length_append, List.length_singleton] at hi2
      rw [List.getElem?_append_left (by omega)] at hj
      rw [List.getElem?_append_left (by rw [h.hl]; omega)] at hv
      refine (h.hs i j' v' hj hv).frame fun g h1 h2 => ?_
      have := h.hiv i (by omega)
      exact hb g (by omega) (by omega) (fun e2 => h.hno i g (by omega) (Or.inr e2) ⟨h1, h2⟩)
end
theorem Own.jv_ {w : World} {lo hi : Nat} {k : Int} {t : List UInt8} {ns : List (List UInt8)} {ks : List Js.J} {v : Value} (h : Own w lo hi (.mk k t ns ks) v) : ∃ nv kv, v = jv k t nv kv ∧ nv.oneCell' = true ∧ kv.oneCell' = true := by
  obtain ⟨k', t', nv', kv', e, h3, h4⟩ := h.four
  cases h with
  | mk _ _ _ _ _ _ nv kv =>
    unfold jv at e
    simp only [Value.agg.injEq, Array.mk.injEq, List.cons.injEq, and_true] at e
    obtain ⟨_, _, rfl, rfl⟩ := e
    exact ⟨nv, kv, rfl, h3, h4⟩
end Go.Proofs.YthfnlnhehececaaDoor
