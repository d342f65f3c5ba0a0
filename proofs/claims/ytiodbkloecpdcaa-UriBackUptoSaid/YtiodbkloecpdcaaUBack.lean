/- What is put in escapes is read again: plain facts. -/
import Derived.Test.YtiodbkloecpdcaaULawO
import Derived.Test.YtiodbkloecpdcaaULaw
namespace Go.Proofs.Ytiodbkloecpdcaa

namespace Ur
theorem val_hx (n : Nat) (h : n < 16) : val (hx n) = n := by
  have : ∀ m : Fin 16, val (hx m.1) = (m.1 : Int) := by decide
  exact this ⟨n, h⟩
theorem byte_hx (c : UInt8) : byte (hx (c.toNat / 16)) (hx (c.toNat % 16)) = c := by
  have hc := c.toNat_lt
  rw [byte, val_hx _ (by omega), val_hx _ (by omega)]
  refine UInt8.toNat_inj.1 ?_
  rw [UInt8.toNat_ofNat']
  omega
theorem dec_enc (p : UInt8 → Bool) (hp : p 37 = false) (S : List UInt8) : ∀ i, dec i (enc p S) = .ok S := by
  induction S with
  | nil => intro i; rfl
  | cons c r ih =>
    intro i
    rw [enc, encB]
    by_cases h : p c = true
    · rw [if_pos h, List.singleton_append, dec_not _ _ _ (fun e => by rw [e, hp] at h; cases h), ih]
      rfl
    · have hc := c.toNat_lt
      rw [if_neg h]
      show dec i (37 :: hx (c.toNat / 16) :: hx (c.toNat % 16) :: enc p r) = _
      rw [dec_two, if_pos ⟨by rw [val_hx _ (by omega)]; omega, by rw [val_hx _ (by omega)]; omega⟩, byte_hx, ih]
      rfl
/-- A byte that may stand in escapes. -/
def okc (c : UInt8) : Bool := freP c || c == 37
theorem okc_all (c : UInt8) (h : okc c = true) : odd c = false ∧ c ≠ 63 ∧ c ≠ 38 ∧ c ≠ 61 := by
  have : ∀ n : Fin 256, okc (UInt8.ofNat n.1) = true → odd (UInt8.ofNat n.1) = false ∧ UInt8.ofNat n.1 ≠ 63 ∧ UInt8.ofNat n.1 ≠ 38 ∧ UInt8.ofNat n.1 ≠ 61 := by decide +kernel
  have q := this ⟨c.toNat, c.toNat_lt⟩
  have e : UInt8.ofNat c.toNat = c := by simp
  simp only [e] at q
  exact q h
theorem okc_hx (n : Nat) (h : n < 16) : okc (hx n) = true := by
  have : ∀ m : Fin 16, okc (hx m.1) = true := by decide
  exact this ⟨n, h⟩
theorem enc_okc (p : UInt8 → Bool) (hp : ∀ c, p c = true → okc c = true) (S : List UInt8) : ∀ x ∈ enc p S, okc x = true := by
  induction S with
  | nil => intro x hx; cases hx
  | cons c r ih =>
    intro x hx
    rw [enc] at hx
    rcases List.mem_append.1 hx with hx | hx
    · rw [encB] at hx
      have hc := c.toNat_lt
      split at hx
      · rename_i h
        simp only [List.mem_singleton] at hx
        rw [hx]; exact hp c h
      · simp only [List.mem_cons, List.not_mem_nil, or_false] at hx
        rcases hx with rfl | rfl | rfl
        · decide
        · exact okc_hx _ (by omega)
        · exact okc_hx _ (by omega)
    · exact ih x hx
theorem fre_okc (c : UInt8) (h : fre c = true) : okc c = true := by simp [okc, freP, h]
theorem freP_okc (c : UInt8) (h : freP c = true) : okc c = true := by simp [okc, h]
theorem len_app (d : UInt8) (A B : List UInt8) (h : ∀ x ∈ A, x ≠ d) : len (· == d) (A ++ d :: B) = A.length := by
  refine len_hit _ _ _ (by simp) ?_ (fun k hk => ?_)
  · simp [List.getD]
  · have e : (A ++ d :: B).getD k 0 = A[k] := by simp [List.getD, List.getElem?_append_left hk, List.getElem?_eq_getElem hk]
    rw [e]
    exact beq_eq_false_iff_ne.2 (h _ (List.getElem_mem hk))
end Ur

open Go.RowKit
/-- A pair's text in escapes. -/
def tx (p : Ur.Pr) : List UInt8 := txt (ep p)
theorem tx_eq (p : Ur.Pr) : tx p = Ur.enc Ur.fre p.1 ++ 61 :: Ur.enc Ur.fre p.2 := by simp [tx, txt, ep]
theorem tx_mem (p : Ur.Pr) : ∀ x ∈ tx p, Ur.odd x = false ∧ x ≠ 38 := by
  intro x hx
  rw [tx_eq] at hx
  rcases List.mem_append.1 hx with hx | hx
  · have := Ur.okc_all x (Ur.enc_okc _ Ur.fre_okc _ x hx)
    exact ⟨this.1, this.2.2.1⟩
  · rcases List.mem_cons.1 hx with rfl | hx
    · decide
    · have := Ur.okc_all x (Ur.enc_okc _ Ur.fre_okc _ x hx)
      exact ⟨this.1, this.2.2.1⟩
theorem two_tx (i : Nat) (p : Ur.Pr) : Ur.two i (tx p) = .ok p.1 p.2 := by
  have hl := Ur.len_app 61 (Ur.enc Ur.fre p.1) (Ur.enc Ur.fre p.2) (fun x hx => (Ur.okc_all x (Ur.enc_okc _ Ur.fre_okc _ x hx)).2.2.2)
  unfold Ur.two
  rw [tx_eq, hl, List.take_left, Ur.dec_enc _ (by decide)]
  rw [show (Ur.enc Ur.fre p.1 ++ 61 :: Ur.enc Ur.fre p.2).drop ((Ur.enc Ur.fre p.1).length + 1) = Ur.enc Ur.fre p.2 by simp [← List.drop_drop]]
  simp only [Ur.dec_enc _ (show Ur.fre 37 = false by decide)]
theorem tx_some (p : Ur.Pr) : tx p ≠ [] := by rw [tx_eq]; simp
theorem qry_tail (r : List Ur.Pr) : ∀ (p : Ur.Pr) (i : Nat), Ur.qry (Ur.cuts 38 (1 + r.length) i (tx p ++ Lib.joinTail [38] (r.map tx))) = .ok (p :: r) := by
  induction r with
  | nil =>
    intro p i
    have hl : Ur.len (· == 38) (tx p) = (tx p).length := Ur.len_none _ _ (fun x hx => (tx_mem p x hx).2)
    simp only [List.map_nil, Lib.joinTail, List.flatten_nil, List.append_nil, List.length_nil, Nat.add_zero]
    rw [Ur.cuts, hl, List.take_length, Ur.cuts, Ur.qry, if_neg (tx_some p), two_tx]
    rfl
  | cons q s ih =>
    intro p i
    have e : tx p ++ Lib.joinTail [38] ((q :: s).map tx) = tx p ++ 38 :: (tx q ++ Lib.joinTail [38] (s.map tx)) := by simp [Lib.joinTail]
    have hl := Ur.len_app 38 (tx p) (tx q ++ Lib.joinTail [38] (s.map tx)) (fun x hx => (tx_mem p x hx).2)
    rw [e, List.length_cons, show 1 + (s.length + 1) = (1 + s.length) + 1 by omega, Ur.cuts, hl, List.take_left, Ur.qry, if_neg (tx_some p), two_tx]
    rw [show (tx p ++ 38 :: (tx q ++ Lib.joinTail [38] (s.map tx))).drop ((tx p).length + 1) = tx q ++ Lib.joinTail [38] (s.map tx) by simp [← List.drop_drop]]
    simp only [ih]
    rfl
theorem count_tail (r : List Ur.Pr) : (Lib.joinTail [38] (r.map tx)).count 38 = r.length := by
  induction r with
  | nil => rfl
  | cons q s ih =>
    have h0 : (tx q).count 38 = 0 := List.count_eq_zero.2 (fun h => (tx_mem q 38 h).2 rfl)
    have e : Lib.joinTail [38] ((q :: s).map tx) = 38 :: (tx q ++ Lib.joinTail [38] (s.map tx)) := by simp [Lib.joinTail]
    rw [e, List.count_cons_self, List.count_append, h0, ih, List.length_cons]
    omega
theorem query_join (m : List Ur.Pr) (i : Nat) : Ur.query i (Lib.join (m.map tx) [38]) = .ok m := by
  cases m with
  | nil => rfl
  | cons p r =>
    have h0 : (tx p).count 38 = 0 := List.count_eq_zero.2 (fun h => (tx_mem p 38 h).2 rfl)
    rw [List.map_cons, Lib.join_cons, Ur.query, List.count_append, h0, count_tail, Nat.zero_add]
    exact qry_tail r p i
/-- A pair out of escapes. -/
def told (t : Ur.Told) : List UInt8 := match t with | .ok l => l | .bad _ => []
def un (p : Ur.Pr) : Ur.Pr := (told (Ur.dec 0 p.1), told (Ur.dec 0 p.2))
theorem un_ep (p : Ur.Pr) : un (ep p) = p := by
  simp [un, ep, Ur.dec_enc _ (show Ur.fre 37 = false by decide), told]
/-- The pairs as they come back. -/
def backs (l : List Ur.Pr) : List Ur.Pr := (srt (l.map ep)).map un
theorem backs_perm (l : List Ur.Pr) : (backs l).Perm l := by
  have h := (srt_perm (l.map ep)).map un
  have e : (l.map ep).map un = l := by
    rw [List.map_map]
    conv => rhs; rw [← List.map_id l]
    exact List.map_congr_left (fun p _ => un_ep p)
  rw [e] at h
  exact h
theorem canon_backs (l : List Ur.Pr) : canon l = Lib.join ((backs l).map tx) [38] := by
  have e : (backs l).map tx = (srt (l.map ep)).map txt := by
    unfold backs
    rw [List.map_map]
    refine List.map_congr_left (fun q hq => ?_)
    have hq2 := (srt_perm _).mem_iff.1 hq
    obtain ⟨p, _, rfl⟩ := List.mem_map.1 hq2
    show txt (ep (un (ep p))) = txt (ep p)
    rw [un_ep]
  rw [canon, e]
theorem tail_mem (r : List Ur.Pr) : ∀ x ∈ Lib.joinTail [38] (r.map tx), Ur.odd x = false := by
  induction r with
  | nil => intro x hx; cases hx
  | cons q s ih =>
    intro x hx
    have e : Lib.joinTail [38] ((q :: s).map tx) = 38 :: (tx q ++ Lib.joinTail [38] (s.map tx)) := by simp [Lib.joinTail]
    rw [e] at hx
    rcases List.mem_cons.1 hx with rfl | hx
    · decide
    · rcases List.mem_append.1 hx with hx | hx
      · exact (tx_mem q x hx).1
      · exact ih x hx
theorem canon_mem (l : List Ur.Pr) : ∀ x ∈ canon l, Ur.odd x = false := by
  rw [canon_backs]
  cases backs l with
  | nil => intro x hx; cases hx
  | cons p r =>
    intro x hx
    rw [List.map_cons, Lib.join_cons] at hx
    rcases List.mem_append.1 hx with hx | hx
    · exact (tx_mem p x hx).1
    · exact tail_mem r x hx
/-- A target that was put together is taken apart. -/
theorem target_back (S : List UInt8) (l : List Ur.Pr) : Ur.target (Ur.enc Ur.freP (47 :: S) ++ 63 :: canon l) = .ok (47 :: S) (backs l) := by
  have hA : ∀ x ∈ Ur.enc Ur.freP (47 :: S), Ur.okc x = true := Ur.enc_okc _ Ur.freP_okc _
  have hl := Ur.len_app 63 (Ur.enc Ur.freP (47 :: S)) (canon l) (fun x hx => (Ur.okc_all x (hA x hx)).2.1)
  have hh : (Ur.enc Ur.freP (47 :: S) ++ 63 :: canon l).head? = some 47 := rfl
  have ho : Ur.len Ur.odd (Ur.enc Ur.freP (47 :: S) ++ 63 :: canon l) = (Ur.enc Ur.freP (47 :: S) ++ 63 :: canon l).length := by
    refine Ur.len_miss _ _ (fun k hk => ?_)
    rw [List.getD, List.getElem?_eq_getElem hk]
    have hm := List.getElem_mem hk
    show Ur.odd _ = false
    rcases List.mem_append.1 hm with h | h
    · exact (Ur.okc_all _ (hA _ h)).1
    · rcases List.mem_cons.1 h with h | h
      · simp only [Option.getD_some]; rw [h]; decide
      · exact canon_mem l _ h
  unfold Ur.target
  rw [if_neg (by rw [hh]; simp), ho, if_neg (by omega), hl, List.take_left, Ur.dec_enc _ (by decide)]
  rw [show (Ur.enc Ur.freP (47 :: S) ++ 63 :: canon l).drop ((Ur.enc Ur.freP (47 :: S)).length + 1) = canon l by simp [← List.drop_drop]]
  simp only []
  rw [canon_backs, query_join]
/-- A path of a bucket and a key is split again. -/
theorem split_join (B S : List UInt8) (h : Ur.Named B) : Ur.bucketOf (Ur.join B S) = B ∧ Ur.keyOf (Ur.join B S) = S := by
  have hn : ∀ c ∈ B, c ≠ 47 := fun c hc => (Ur.ofName_fre c (h.all c hc)).2
  unfold Ur.join
  split
  · rename_i e
    rw [e]
    exact Ur.split_named B h
  · have hl := Ur.len_app 47 B S hn
    unfold Ur.bucketOf Ur.keyOf
    simp only [List.head?_cons, if_true, List.drop_succ_cons, List.drop_zero, hl, List.take_left]
    exact ⟨trivial, by simp [← List.drop_drop]⟩
end Go.Proofs.Ytiodbkloecpdcaa
