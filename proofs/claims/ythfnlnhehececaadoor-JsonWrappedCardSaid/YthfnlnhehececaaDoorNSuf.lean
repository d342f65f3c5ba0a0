/- Whatever a reader tells, what is left is the end of what was there; where it tells something, it is shorter. -/
import Derived.Test.YthfnlnhehececaaDoorNUtf
namespace Go.Proofs.YthfnlnhehececaaDoor

namespace Js
/-- What is left is an end of l. -/
def Rs.Suf {α : Type} (l : List UInt8) : Rs α → Prop
  | .ok _ r => r <:+ l
  | .bad _ r => r <:+ l
/-- Something was read. -/
def Rs.Con {α : Type} (l : List UInt8) : Rs α → Prop
  | .ok _ r => r.length < l.length
  | .bad _ _ => True
theorem Rs.Suf.up {α : Type} {l m : List UInt8} {x : Rs α} (h : x.Suf l) (k : l <:+ m) : x.Suf m := by
  cases x with
  | ok a r => exact List.IsSuffix.trans h k
  | bad c r => exact List.IsSuffix.trans h k
theorem Rs.Suf.bind {α β : Type} {l : List UInt8} {x : Rs α} {f : α → List UInt8 → Rs β} (h : x.Suf l) (hf : ∀ a r, x = .ok a r → (f a r).Suf l) : (x.bind f).Suf l := by
  cases x with
  | ok a r => exact hf a r rfl
  | bad c r => exact h
theorem Rs.Suf.map {α β : Type} {l : List UInt8} {x : Rs α} (f : α → β) (h : x.Suf l) : (x.map f).Suf l := by
  cases x with
  | ok a r => exact h
  | bad c r => exact h
theorem Rs.Con.bind {α β : Type} {l : List UInt8} {x : Rs α} {f : α → List UInt8 → Rs β} (hf : ∀ a r, x = .ok a r → (f a r).Con l) : (x.bind f).Con l := by
  cases x with
  | ok a r => exact hf a r rfl
  | bad c r => trivial
theorem Rs.Con.map {α β : Type} {l : List UInt8} {x : Rs α} (f : α → β) (h : x.Con l) : (x.map f).Con l := by
  cases x with
  | ok a r => exact h
  | bad c r => trivial
theorem Rs.Con.up {α : Type} {l m : List UInt8} {x : Rs α} (h : x.Con l) (k : l.length ≤ m.length) : x.Con m := by
  cases x with
  | ok a r => exact Nat.lt_of_lt_of_le h k
  | bad c r => trivial
theorem Rs.Suf.ite {α : Type} {l : List UInt8} {c : Prop} [Decidable c] {x y : Rs α} (h : x.Suf l) (k : y.Suf l) : (if c then x else y).Suf l := by
  split
  · exact h
  · exact k
theorem Rs.Suf.ok {α : Type} {l r : List UInt8} (a : α) (h : r <:+ l) : (Rs.ok a r).Suf l := h
theorem Rs.Suf.bad {α : Type} {l r : List UInt8} (c : Nat) (h : r <:+ l) : (Rs.bad c r : Rs α).Suf l := h
theorem suf_cons (c : UInt8) (r : List UInt8) : r <:+ c :: r := List.suffix_cons c r
theorem suf_tail (l : List UInt8) : l.tail <:+ l := List.tail_suffix l
theorem suf_drop (n : Nat) (l : List UInt8) : l.drop n <:+ l := List.drop_suffix n l
theorem suf_nil (l : List UInt8) : [] <:+ l := List.nil_suffix
theorem ws_suf : ∀ l : List UInt8, ws l <:+ l
  | [] => List.suffix_refl _
  | c :: r => by
    unfold ws
    split
    · exact (ws_suf r).trans (suf_cons c r)
    · exact List.suffix_refl _
theorem ws_len (l : List UInt8) : (ws l).length ≤ l.length := (ws_suf l).length_le
theorem tk_suf (b : UInt8) (l : List UInt8) : (tk b l).Suf l := by
  cases l with
  | nil => exact List.suffix_refl _
  | cons c r =>
    unfold tk
    dsimp only
    split
    · exact suf_cons c r
    · exact List.suffix_refl _
theorem tk_con (b : UInt8) (l : List UInt8) : (tk b l).Con l := by
  cases l with
  | nil => trivial
  | cons c r =>
    unfold tk
    dsimp only
    split
    · show r.length < (c :: r).length; simp
    · trivial
theorem tk_ok {b : UInt8} {l r : List UInt8} {a : Unit} (h : tk b l = .ok a r) : l = b :: r := by
  cases l with
  | nil => cases h
  | cons c q =>
    unfold tk at h
    dsimp only at h
    split at h
    · rename_i e
      cases h
      rw [beq_iff_eq.1 e]
    · cases h
theorem tk_bad {b : UInt8} {l r : List UInt8} {c : Nat} (h : tk b l = .bad c r) : c = 54 ∧ r = l ∧ l.head? ≠ some b := by
  cases l with
  | nil => cases h; exact ⟨rfl, rfl, by simp⟩
  | cons d q =>
    unfold tk at h
    dsimp only at h
    split at h
    · cases h
    · rename_i e
      cases h
      refine ⟨rfl, rfl, ?_⟩
      simp only [List.head?_cons, ne_eq, Option.some.injEq]
      intro e'
      exact e (beq_iff_eq.2 e')
theorem tk_hit (b : UInt8) (r : List UInt8) : tk b (b :: r) = .ok () r := by unfold tk; dsimp only; rw [if_pos (by simp)]
theorem tk_miss {b : UInt8} {l : List UInt8} (h : l.head? ≠ some b) : tk b l = .bad 54 l := by
  cases l with
  | nil => rfl
  | cons c r =>
    unfold tk
    dsimp only
    rw [if_neg]
    intro e
    exact h (by rw [beq_iff_eq.1 e]; rfl)
theorem wd_suf : ∀ (w l : List UInt8), (wd w l).Suf l
  | [], l => List.suffix_refl _
  | b :: w, l => by
    unfold wd
    refine Rs.Suf.bind (tk_suf b l) fun a r h => ?_
    exact (wd_suf w r).up (by rw [tk_ok h]; exact suf_cons b r)
theorem wd_con (b : UInt8) (w l : List UInt8) : (wd (b :: w) l).Con l := by
  unfold wd
  refine Rs.Con.bind fun a r h => ?_
  have := wd_suf w r
  rw [tk_ok h]
  cases hw : wd w r with
  | ok a q => rw [hw] at this; exact Nat.lt_succ_of_le (List.IsSuffix.length_le this)
  | bad c q => trivial
theorem un_suf (b : List UInt8) : ∀ (n a : Nat) (l m : List UInt8), b <:+ m → l <:+ m → (un b n a l).Suf m
  | 0, _, _, _, _, h => h
  | _ + 1, _, [], m, _, _ => suf_nil m
  | n + 1, a, c :: r, m, hb, h => by
    unfold un
    split
    · exact hb
    · exact un_suf b n _ r m hb ((suf_cons c r).trans h)
theorem un_len (b : List UInt8) : ∀ (n a : Nat) (l : List UInt8) (x : Nat) (r : List UInt8), un b n a l = .ok x r → r.length ≤ l.length
  | 0, _, _, _, _, h => by cases h; exact Nat.le_refl _
  | _ + 1, _, [], _, _, h => by cases h
  | n + 1, a, c :: r, x, q, h => by
    unfold un at h
    split at h
    · cases h
    · have := un_len b n _ r x q h
      simp only [List.length_cons]; omega
theorem tz_suf (b : List UInt8) (x : UInt8) (l m : List UInt8) (hb : b <:+ m) (h : l <:+ m) : (tz b x l).Suf m := by
  cases l with
  | nil => exact suf_nil m
  | cons c r =>
    unfold tz
    dsimp only
    split
    · exact (suf_cons c r).trans h
    · exact hb
theorem tz_ok {b : List UInt8} {x : UInt8} {l r : List UInt8} {a : Unit} (h : tz b x l = .ok a r) : l = x :: r := by
  cases l with
  | nil => cases h
  | cons c q =>
    unfold tz at h
    dsimp only at h
    split at h
    · rename_i e; cases h; rw [beq_iff_eq.1 e]
    · cases h
theorem low_suf (b : List UInt8) (c : Nat) (l m : List UInt8) (hb : b <:+ m) (h : l <:+ m) : (low b c l).Suf m := by
  unfold low
  have hu := un_suf b 4 0 l m hb h
  refine Rs.Suf.bind hu fun x r e => ?_
  rw [e] at hu
  exact Rs.Suf.ite (Rs.Suf.ok _ hu) (Rs.Suf.bad _ hb)
theorem low_len {b : List UInt8} {c : Nat} {l : List UInt8} {x : Nat} {r : List UInt8} (h : low b c l = .ok x r) : r.length ≤ l.length := by
  unfold low at h
  cases hu : un b 4 0 l with
  | bad d q => rw [hu] at h; cases h
  | ok y q =>
    rw [hu] at h
    simp only [Rs.bind] at h
    split at h
    · injection h with _ h2; subst h2; exact un_len b 4 0 l y _ hu
    · cases h
theorem cod_suf (b l m : List UInt8) (hb : b <:+ m) (h : l <:+ m) : (cod b l).Suf m := by
  unfold cod
  have hu := un_suf b 4 0 l m hb h
  refine Rs.Suf.bind hu fun x r e => ?_
  rw [e] at hu
  split
  · split
    · exact hb
    · have hz := tz_suf b 92 r m hb hu
      refine Rs.Suf.bind hz fun _ r2 e2 => ?_
      rw [e2] at hz
      have hz2 := tz_suf b 117 r2 m hb hz
      refine Rs.Suf.bind hz2 fun _ r3 e3 => ?_
      rw [e3] at hz2
      exact low_suf b x r3 m hb hz2
  · exact hu
theorem cod_len {b l : List UInt8} {x : Nat} {r : List UInt8} (h : cod b l = .ok x r) : r.length ≤ l.length := by
  unfold cod at h
  cases hu : un b 4 0 l with
  | bad d q => rw [hu] at h; cases h
  | ok y q =>
    have h1 := un_len b 4 0 l y q hu
    rw [hu] at h
    simp only [Rs.bind] at h
    split at h
    · split at h
      · cases h
      · cases hz : tz b 92 q with
        | bad d q2 => rw [hz] at h; cases h
        | ok a q2 =>
          have e1 := tz_ok hz
          rw [hz] at h
          simp only at h
          cases hz2 : tz b 117 q2 with
          | bad d q3 => rw [hz2] at h; cases h
          | ok a q3 =>
            have e2 := tz_ok hz2
            rw [hz2] at h
            have := low_len h
            rw [e1, e2] at h1
            simp only [List.length_cons] at h1
            omega
    · cases h; exact h1
theorem esc_suf (l m : List UInt8) (h : l <:+ m) : (esc l).Suf m := by
  unfold esc
  cases l with
  | nil => exact suf_nil m
  | cons a l =>
    cases l with
    | nil => exact suf_nil m
    | cons c r =>
      simp only [List.tail_cons]
      have h2 : r <:+ m := (suf_cons c r).trans ((suf_cons a _).trans h)
      cases sim c with
      | some x => exact h2
      | none =>
        simp only
        split
        · exact cod_suf _ _ _ h h2
        · exact h
theorem esc_con (l : List UInt8) : (esc l).Con l := by
  unfold esc
  cases l with
  | nil => trivial
  | cons a l =>
    cases l with
    | nil => trivial
    | cons c r =>
      simp only [List.tail_cons]
      cases sim c with
      | some x => show r.length < _; simp only [List.length_cons]; omega
      | none =>
        simp only
        split
        · cases hc : cod (a :: c :: r) r with
          | bad d q => trivial
          | ok x q =>
            have := cod_len hc
            show q.length < _; simp only [List.length_cons]; omega
        · trivial
theorem chr_suf (l : List UInt8) : (chr l).Suf l := by
  unfold chr
  split
  · exact esc_suf l l (List.suffix_refl _)
  · cases u8c l with
    | none => exact List.suffix_refl _
    | some x =>
      obtain ⟨c, n⟩ := x
      simp only
      split
      · exact List.suffix_refl _
      · exact suf_drop n l
theorem chr_con (l : List UInt8) : (chr l).Con l := by
  unfold chr
  split
  · exact esc_con l
  · cases h : u8c l with
    | none => trivial
    | some x =>
      obtain ⟨c, n⟩ := x
      have := (enc_u8c h).2
      simp only
      split
      · trivial
      · show (l.drop n).length < l.length; rw [List.length_drop]; omega
theorem tx_suf : ∀ (n : Nat) (l : List UInt8), (tx n l).Suf l
  | 0, l => List.suffix_refl _
  | n + 1, l => by
    unfold tx
    split
    · exact suf_tail l
    · have h := chr_suf l
      refine Rs.Suf.bind h fun c r e => ?_
      rw [e] at h
      exact ((tx_suf n r).map _).up h
theorem quoted_suf (l : List UInt8) : (quoted l).Suf l := by
  unfold quoted
  have h := tk_suf 34 l
  refine Rs.Suf.bind h fun _ r e => ?_
  rw [e] at h
  exact (tx_suf _ r).up h
theorem quoted_con (l : List UInt8) : (quoted l).Con l := by
  unfold quoted
  refine Rs.Con.bind fun _ r e => ?_
  have h := tx_suf (r.length + 1) r
  rw [tk_ok e]
  cases ht : tx (r.length + 1) r with
  | bad c q => trivial
  | ok t q =>
    rw [ht] at h
    exact Nat.lt_succ_of_le (List.IsSuffix.length_le h)
theorem dgs_le : ∀ l : List UInt8, dgs l ≤ l.length
  | [] => Nat.le_refl _
  | c :: r => by
    unfold dgs
    split
    · simp only [List.length_cons]; have := dgs_le r; omega
    · exact Nat.zero_le _
theorem head_len {l : List UInt8} {a : Nat} {c : UInt8} (h : (l.drop a).head? = some c) : a < l.length := by
  rcases Nat.lt_or_ge a l.length with h1 | h1
  · exact h1
  · rw [List.drop_eq_nil_of_le h1] at h; cases h
theorem isE_len {l : List UInt8} {a : Nat} (h : isE (l.drop a).head? = true) : a < l.length := by
  rcases Nat.lt_or_ge a l.length with h1 | h1
  · exact h1
  · rw [List.drop_eq_nil_of_le h1] at h; cases h
theorem isPm_len {l : List UInt8} {a : Nat} (h : isPm (l.drop a).head? = true) : a < l.length := by
  rcases Nat.lt_or_ge a l.length with h1 | h1
  · exact h1
  · rw [List.drop_eq_nil_of_le h1] at h; cases h
theorem bDig_le (l : List UInt8) (a : Nat) (h : a ≤ l.length) : (bDig l a).1 ≤ l.length ∧ a ≤ (bDig l a).1 ∧ ((bDig l a).2 = true → a < (bDig l a).1) := by
  have := dgs_le (l.drop a)
  rw [List.length_drop] at this
  unfold bDig
  refine ⟨?_, ?_, ?_⟩
  · show a + dgs (l.drop a) ≤ _; omega
  · show a ≤ a + _; omega
  · intro h; have := of_decide_eq_true h; show a < a + _; omega
theorem bInt_le (l : List UInt8) : (bInt l).1 ≤ l.length ∧ ((bInt l).2 = true → 0 < (bInt l).1) := by
  unfold bInt
  dsimp only
  have ha : (if l.head? = some 45 then 1 else 0) ≤ l.length := by
    split
    · rename_i h; cases l with
      | nil => cases h
      | cons c r => simp
    · omega
  generalize (if l.head? = some 45 then 1 else 0) = a at *
  split
  · rename_i h
    have := head_len h
    exact ⟨by show a + 1 ≤ _; omega, fun _ => by show 0 < a + 1; omega⟩
  · have := bDig_le l a ha
    exact ⟨this.1, fun h => Nat.lt_of_le_of_lt (Nat.zero_le _) (this.2.2 h)⟩
theorem bFrac_le (l : List UInt8) (x : Nat × Bool) (h : x.1 ≤ l.length) : (bFrac l x).1 ≤ l.length ∧ x.1 ≤ (bFrac l x).1 := by
  unfold bFrac
  split
  · rename_i hc
    have := bDig_le l (x.1 + 1) (head_len hc.2)
    exact ⟨this.1, by omega⟩
  · exact ⟨h, Nat.le_refl _⟩
theorem bExp_le (l : List UInt8) (x : Nat × Bool) (h : x.1 ≤ l.length) : (bExp l x).1 ≤ l.length ∧ x.1 ≤ (bExp l x).1 := by
  unfold bExp
  split
  · rename_i hc
    have h1 := isE_len hc.2
    have h2 : (if isPm (l.drop (x.1 + 1)).head? = true then x.1 + 2 else x.1 + 1) ≤ l.length ∧ x.1 ≤ (if isPm (l.drop (x.1 + 1)).head? = true then x.1 + 2 else x.1 + 1) := by
      split
      · rename_i hp; have := isPm_len hp; omega
      · omega
    have := bDig_le l _ h2.1
    exact ⟨this.1, Nat.le_trans h2.2 this.2.1⟩
  · exact ⟨h, Nat.le_refl _⟩
theorem bFrac_true (l : List UInt8) (x : Nat × Bool) (h : (bFrac l x).2 = true) : x.2 = true := by
  unfold bFrac at h
  split at h
  · rename_i hc; exact hc.1
  · exact h
theorem bExp_true (l : List UInt8) (x : Nat × Bool) (h : (bExp l x).2 = true) : x.2 = true := by
  unfold bExp at h
  split at h
  · rename_i hc; exact hc.1
  · exact h
theorem nsz_le (l : List UInt8) : (nsz l).1 ≤ l.length ∧ ((nsz l).2 = true → 0 < (nsz l).1) := by
  unfold nsz
  have h1 := bInt_le l
  have h2 := bFrac_le l (bInt l) h1.1
  have h3 := bExp_le l (bFrac l (bInt l)) h2.1
  refine ⟨h3.1, fun h => ?_⟩
  have := h1.2 (bFrac_true _ _ (bExp_true _ _ h))
  omega
theorem num_suf (l : List UInt8) : (num l).Suf l := by
  unfold num
  split
  · exact suf_drop _ l
  · exact suf_drop _ l
theorem num_con (l : List UInt8) : (num l).Con l := by
  unfold num
  split
  · rename_i h
    have := nsz_le l
    have h2 := this.2 h
    show (l.drop (nsz l).1).length < l.length
    rw [List.length_drop]; omega
  · trivial
theorem mems_suf {α : Type} (e : UInt8) (f : List UInt8 → Rs α) (hf : ∀ l, (f l).Suf l) : ∀ (n : Nat) (b : Bool) (l : List UInt8), (mems e f n b l).Suf l
  | 0, _, l => List.suffix_refl _
  | n + 1, b, l => by
    unfold mems
    split
    · exact suf_tail l
    · have h1 : ((if b then Rs.ok () l else (tk 44 l).bind fun _ r => .ok () (ws r)) : Rs Unit).Suf l := by
        split
        · exact List.suffix_refl _
        · have h := tk_suf 44 l
          refine Rs.Suf.bind h fun _ r e => ?_
          rw [e] at h
          exact (ws_suf r).trans h
      refine Rs.Suf.bind h1 fun _ l1 e1 => ?_
      rw [e1] at h1
      have h2 := (hf l1).up h1
      refine Rs.Suf.bind h2 fun a r e2 => ?_
      rw [e2] at h2
      exact ((mems_suf e f hf n false (ws r)).map _).up ((ws_suf r).trans h2)
theorem mem_suf (f : List UInt8 → Rs J) (hf : ∀ l, (f l).Suf l) (l : List UInt8) : (mem f l).Suf l := by
  unfold mem
  have h1 := quoted_suf l
  refine Rs.Suf.bind h1 fun nm r e => ?_
  rw [e] at h1
  have h2 : (tk 58 (ws r)).Suf l := (tk_suf 58 (ws r)).up ((ws_suf r).trans h1)
  refine Rs.Suf.bind h2 fun _ r2 e2 => ?_
  rw [e2] at h2
  exact ((hf _).map _).up ((ws_suf r2).trans h2)
theorem Rs.bindCon {α β : Type} {l : List UInt8} {x : Rs α} {f : α → List UInt8 → Rs β} (h : x.Con l) (hf : ∀ a r, x = .ok a r → (f a r).Suf r) : (x.bind f).Con l := by
  cases x with
  | bad c r => trivial
  | ok a r =>
    have hs := hf a r rfl
    show (f a r).Con l
    cases hx : f a r with
    | bad c q => trivial
    | ok b q =>
      rw [hx] at hs
      exact Nat.lt_of_le_of_lt (List.IsSuffix.length_le hs) h
theorem mem_con (f : List UInt8 → Rs J) (hf : ∀ l, (f l).Suf l) (l : List UInt8) : (mem f l).Con l := by
  unfold mem
  refine Rs.bindCon (quoted_con l) fun nm r e => ?_
  have h2 : (tk 58 (ws r)).Suf r := (tk_suf 58 (ws r)).up (ws_suf r)
  refine Rs.Suf.bind h2 fun _ r2 e2 => ?_
  rw [e2] at h2
  exact ((hf _).map _).up ((ws_suf r2).trans h2)
theorem vstep_suf (f : Option (List UInt8 → Rs J)) (hf : ∀ g, f = some g → ∀ l, (g l).Suf l) (l : List UInt8) : (vstep f l).Suf l := by
  unfold vstep
  split
  · exact (wd_suf _ l).map _
  · split
    · exact (wd_suf _ l).map _
    · split
      · exact (wd_suf _ l).map _
      · split
        · exact (quoted_suf l).map _
        · split
          · cases f with
            | none => exact List.suffix_refl _
            | some g => exact ((mems_suf 93 g (hf g rfl) _ true _).map _).up ((ws_suf _).trans (suf_tail l))
          · split
            · cases f with
              | none => exact List.suffix_refl _
              | some g => exact ((mems_suf 125 _ (mem_suf g (hf g rfl)) _ true _).map _).up ((ws_suf _).trans (suf_tail l))
            · exact num_suf l
theorem mems_con {α : Type} (e : UInt8) (f : List UInt8 → Rs α) (hf : ∀ l, (f l).Suf l) (n : Nat) (b : Bool) (l : List UInt8) (c : UInt8) : (mems e f n b (ws l)).Con (c :: l) := by
  have h := mems_suf e f hf n b (ws l)
  have h2 := ws_len l
  cases hm : mems e f n b (ws l) with
  | bad d q => trivial
  | ok a q =>
    rw [hm] at h
    have := List.IsSuffix.length_le h
    show q.length < (c :: l).length
    simp only [List.length_cons]; omega
theorem vstep_con (f : Option (List UInt8 → Rs J)) (hf : ∀ g, f = some g → ∀ l, (g l).Suf l) (l : List UInt8) : (vstep f l).Con l := by
  unfold vstep
  split
  · exact (wd_con _ _ l).map _
  · split
    · exact (wd_con _ _ l).map _
    · split
      · exact (wd_con _ _ l).map _
      · split
        · exact (quoted_con l).map _
        · split
          · cases f with
            | none => trivial
            | some g =>
              cases l with
              | nil => trivial
              | cons c r => exact (mems_con 93 g (hf g rfl) _ true r c).map _
          · split
            · cases f with
              | none => trivial
              | some g =>
                cases l with
                | nil => rename_i h; simp at h
                | cons c r => exact (mems_con 125 _ (mem_suf g (hf g rfl)) _ true r c).map _
            · exact num_con l
theorem val_suf : ∀ (d : Nat) (l : List UInt8), (val d l).Suf l
  | 0, l => vstep_suf none (fun g h => by cases h) l
  | d + 1, l => vstep_suf (some (val d)) (fun g h => by cases h; exact val_suf d) l
theorem val_con : ∀ (d : Nat) (l : List UInt8), (val d l).Con l
  | 0, l => vstep_con none (fun g h => by cases h) l
  | d + 1, l => vstep_con (some (val d)) (fun g h => by cases h; exact val_suf d) l
/-- An end of a text is what stands from a place on. -/
theorem suf_at {r S : List UInt8} (h : r <:+ S) : r.length ≤ S.length ∧ S.drop (S.length - r.length) = r := by
  refine ⟨h.length_le, ?_⟩
  obtain ⟨t, rfl⟩ := h
  rw [List.length_append, Nat.add_sub_cancel, List.drop_left]
end Js
end Go.Proofs.YthfnlnhehececaaDoor
