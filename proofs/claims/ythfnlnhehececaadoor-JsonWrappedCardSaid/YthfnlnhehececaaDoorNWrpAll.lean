import Derived.Test.YthfnlnhehececaaDoorNSuf
import Derived.Test.YthfnlnhehececaaDoorNTxt
import Derived.Test.YthfnlnhehececaaDoorNMem
import Derived.Test.YthfnlnhehececaaDoorNHas
import Derived.Test.YthfnlnhehececaaDoorNRt
import Derived.Test.YthfnlnhehececaaDoorNKw
import Derived.Test.YthfnlnhehececaaDoorNWritten
import Derived.Test.YthfnlnhehececaaDoorNFind
import Derived.Test.YthfnlnhehececaaDoorNWrite
import Derived.Test.YthfnlnhehececaaDoorNFind2
import Derived.Test.YthfnlnhehececaaDoorNParse2
import Derived.Test.YthfnlnhehececaaDoorNSame3
import Derived.Test.YthfnlnhehececaaDoorRows
import Derived.Test.YthfnlnhehececaaDoorNShelf
import Derived.Test.YthfnlnhehececaaDoorNEsc
import Derived.Lib.LaidIn
import Derived.Lib.LaidU8T
import Derived.PinnedBridge
import Derived.MakeChecks
import Derived.LaidLaws
import Derived.LaidHandle
import Derived.KernelRfl
import Derived.WalkKit
import Derived.ProofKit
import Derived.OpenShut
import Derived.SizedLaws
import Derived.ChangeSame
import Derived.ChangeVars
import Derived.JoinedOf
import Derived.RowKit
import Derived.RowKitTokens
import Derived.Stop.Joined
import Derived.Test.YthfnlnhehececaaDoorCards
import Derived.Test.YthfnlnhehececaaDoorTie
import Derived.SevenTiedAt
/- Several texts in one, in the order in which they build: NX1 NX2 NX3 NX4 NX5 NX6 NLaw NExam NX7 NBlk NBlkW NWrpW NWrpW2 NLaid NWrpRow NWrpRowCard. -/
/- A reader's answer, and what it answers where something stands behind. -/
namespace Go.Proofs.YthfnlnhehececaaDoor
namespace Js
/-- Blanks alone. -/
def Bl (B : List UInt8) : Prop := ∀ c ∈ B, isWs c = true
/-- What a number can't go on with. -/
def Cl (B : List UInt8) : Prop := ∀ c, B.head? = some c → c.toNat < 128 ∧ isDg c = false ∧ c ≠ 46 ∧ isE (some c) = false ∧ isPm (some c) = false
/-- What a reader tells (x), and what it tells where B stands behind (y). -/
def Rel {α : Type} (B : List UInt8) (x y : Rs α) : Prop :=
  match x with
  | .ok a r => y = .ok a (r ++ B)
  | .bad c r => (r ≠ [] → y = .bad c (r ++ B)) ∧ (Bl B → r = [] → ∃ r', y = .bad 54 r')
theorem Rel.bind {α β : Type} {B : List UInt8} {x y : Rs α} {g g' : α → List UInt8 → Rs β} (h : Rel B x y) (k : ∀ a r, x = .ok a r → Rel B (g a r) (g' a (r ++ B))) : Rel B (x.bind g) (y.bind g') := by
  cases x with
  | ok a r =>
    have h' : y = .ok a (r ++ B) := h
    subst h'
    exact k a r rfl
  | bad c r =>
    refine ⟨fun hr => ?_, fun hb hr => ?_⟩
    · rw [h.1 hr]; rfl
    · obtain ⟨r', h'⟩ := h.2 hb hr
      exact ⟨r', by rw [h']; rfl⟩
theorem Rel.map {α β : Type} {B : List UInt8} {x y : Rs α} (f : α → β) (h : Rel B x y) : Rel B (x.map f) (y.map f) := by
  cases x with
  | ok a r =>
    have h' : y = .ok a (r ++ B) := h
    subst h'
    exact rfl
  | bad c r =>
    refine ⟨fun hr => ?_, fun hb hr => ?_⟩
    · rw [h.1 hr]; rfl
    · obtain ⟨r', h'⟩ := h.2 hb hr
      exact ⟨r', by rw [h']; rfl⟩
theorem Rel.ok {α : Type} {B r : List UInt8} (a : α) : Rel B (.ok a r) (.ok a (r ++ B)) := rfl
theorem Rel.bad {α : Type} {B r : List UInt8} (c : Nat) (h : r ≠ []) : Rel B (.bad c r : Rs α) (.bad c (r ++ B)) := ⟨fun _ => rfl, fun _ h' => absurd h' h⟩
theorem Rel.end {α : Type} {B : List UInt8} (c : Nat) {y : Rs α} (h : Bl B → ∃ r', y = .bad 54 r') : Rel B (.bad c [] : Rs α) y := ⟨fun h' => absurd rfl h', fun hb _ => h hb⟩
theorem Bl.tail {c : UInt8} {B : List UInt8} (h : Bl (c :: B)) : Bl B := fun d hd => h d (List.mem_cons_of_mem _ hd)
theorem Bl.head {c : UInt8} {B : List UInt8} (h : Bl (c :: B)) : isWs c = true := h c List.mem_cons_self
theorem isWs_cases {c : UInt8} (h : isWs c = true) : c = 32 ∨ c = 9 ∨ c = 10 ∨ c = 13 := by
  simp only [isWs, Bool.or_eq_true, beq_iff_eq] at h
  rcases h with ((h | h) | h) | h <;> simp [h]
theorem Bl.cl {B : List UInt8} (h : Bl B) : Cl B := by
  intro c hc
  cases B with
  | nil => cases hc
  | cons d r =>
    obtain rfl := Option.some.inj hc
    rcases isWs_cases h.head with rfl | rfl | rfl | rfl <;> decide
theorem ws_app {B : List UInt8} : ∀ {l : List UInt8}, ws l ≠ [] → ws (l ++ B) = ws l ++ B
  | [], h => absurd rfl h
  | c :: r, h => by
    rw [ws] at h ⊢
    rw [List.cons_append, ws]
    split
    · rename_i hc
      rw [if_pos hc] at h
      exact ws_app h
    · rfl
theorem ws_gone {B : List UInt8} : ∀ {l : List UInt8}, ws l = [] → ws (l ++ B) = ws B
  | [], _ => rfl
  | c :: r, h => by
    rw [ws] at h
    rw [List.cons_append, ws]
    split at h
    · rename_i hc
      rw [if_pos hc]
      exact ws_gone h
    · cases h
theorem ws_bl : ∀ {B : List UInt8}, Bl B → ws B = []
  | [], _ => rfl
  | c :: r, h => by rw [ws, if_pos h.head]; exact ws_bl h.tail
theorem ws_idem : ∀ l : List UInt8, ws (ws l) = ws l
  | [] => rfl
  | c :: r => by
    rw [ws]
    split
    · exact ws_idem r
    · rename_i hc; rw [ws, if_neg hc]
theorem ws_off {c : UInt8} (h : isWs c = false) (r : List UInt8) : ws (c :: r) = c :: r := by rw [ws, if_neg (by simp [h])]
theorem Rel.ws {α : Type} {B : List UInt8} {h h' : List UInt8 → Rs α} (hn : ∃ c, h [] = .bad c []) (hn' : h' [] = .bad 54 []) (hr : ∀ l, l ≠ [] → Rel B (h l) (h' (l ++ B))) (r : List UInt8) : Rel B (h (Js.ws r)) (h' (Js.ws (r ++ B))) := by
  by_cases he : Js.ws r = []
  · rw [he, ws_gone he]
    obtain ⟨c, hc⟩ := hn
    rw [hc]
    refine Rel.end c fun hb => ⟨[], ?_⟩
    rw [ws_bl hb, hn']
  · rw [ws_app he]
    exact hr _ he
theorem tk_rel {b : UInt8} (hb : isWs b = false) (B l : List UInt8) : Rel B (tk b l) (tk b (l ++ B)) := by
  cases l with
  | nil =>
    refine Rel.end 54 fun hB => ?_
    cases B with
    | nil => exact ⟨[], rfl⟩
    | cons c r =>
      refine ⟨c :: r, ?_⟩
      show tk b (c :: r) = _
      refine tk_miss ?_
      intro h
      obtain rfl := Option.some.inj h
      rw [hB.head] at hb; cases hb
  | cons c r =>
    rw [List.cons_append, tk, tk]
    split
    · exact Rel.ok ()
    · exact Rel.bad 54 (List.cons_ne_nil _ _)
theorem wd_rel (B : List UInt8) : ∀ (w : List UInt8), (∀ c ∈ w, isWs c = false) → ∀ l, Rel B (wd w l) (wd w (l ++ B))
  | [], _, l => Rel.ok ()
  | b :: w, hw, l => by
    rw [wd, wd]
    exact (tk_rel (hw b List.mem_cons_self) B l).bind fun a r _ => wd_rel B w (fun c hc => hw c (List.mem_cons_of_mem _ hc)) r
theorem hv_ws {c : UInt8} (h : isWs c = true) : hv c = none := by
  rcases isWs_cases h with rfl | rfl | rfl | rfl <;> rfl
theorem sim_ws {c : UInt8} (h : isWs c = true) : sim c = none ∧ (c == 117) = false := by
  rcases isWs_cases h with rfl | rfl | rfl | rfl <;> decide
theorem un_rel {b : List UInt8} (hb : b ≠ []) (B : List UInt8) : ∀ (n a : Nat) (l : List UInt8), Rel B (un b n a l) (un (b ++ B) n a (l ++ B))
  | 0, a, l => Rel.ok a
  | n + 1, a, [] => by
    refine Rel.end 54 fun hB => ?_
    cases B with
    | nil => exact ⟨[], rfl⟩
    | cons c r =>
      refine ⟨b ++ c :: r, ?_⟩
      show un (b ++ c :: r) (n + 1) a (c :: r) = _
      rw [un, hv_ws hB.head]
  | n + 1, a, c :: r => by
    rw [List.cons_append, un, un]
    split
    · exact Rel.bad 54 hb
    · exact un_rel hb B n _ r
theorem Rel.ite {α : Type} {B : List UInt8} {c : Prop} [Decidable c] {x y x' y' : Rs α} (h : Rel B x x') (k : Rel B y y') : Rel B (if c then x else y) (if c then x' else y') := by
  split
  · exact h
  · exact k
theorem low_rel {b : List UInt8} (hb : b ≠ []) (B : List UInt8) (c : Nat) (l : List UInt8) : Rel B (low b c l) (low (b ++ B) c (l ++ B)) := by
  unfold low
  exact (un_rel hb B 4 0 l).bind fun m r _ => Rel.ite (Rel.ok _) (Rel.bad 54 hb)
theorem tz_rel {b : List UInt8} (hb : b ≠ []) (B : List UInt8) {x : UInt8} (hx : isWs x = false) (l : List UInt8) : Rel B (tz b x l) (tz (b ++ B) x (l ++ B)) := by
  cases l with
  | nil =>
    refine Rel.end 54 fun hB => ?_
    cases B with
    | nil => exact ⟨[], rfl⟩
    | cons c r =>
      refine ⟨b ++ c :: r, ?_⟩
      show tz (b ++ c :: r) x (c :: r) = _
      rw [tz, if_neg]
      intro h
      obtain rfl := beq_iff_eq.1 h
      rw [hB.head] at hx; cases hx
  | cons c r =>
    rw [List.cons_append, tz, tz]
    exact Rel.ite (Rel.ok _) (Rel.bad 54 hb)
theorem cod_rel {b : List UInt8} (hb : b ≠ []) (B l : List UInt8) : Rel B (cod b l) (cod (b ++ B) (l ++ B)) := by
  unfold cod
  refine (un_rel hb B 4 0 l).bind fun c r _ => Rel.ite (Rel.ite (Rel.bad 54 hb) ?_) (Rel.ok _)
  exact (tz_rel hb B (by decide) r).bind fun _ r2 _ => (tz_rel hb B (by decide) r2).bind fun _ r3 _ => low_rel hb B c r3
theorem esc_rel (B : List UInt8) (c : UInt8) (r : List UInt8) : Rel B (esc (c :: r)) (esc (c :: r ++ B)) := by
  cases r with
  | nil =>
    refine Rel.end 54 fun hB => ?_
    cases B with
    | nil => exact ⟨[], rfl⟩
    | cons d q =>
      refine ⟨c :: d :: q, ?_⟩
      show esc (c :: d :: q) = _
      unfold esc
      obtain ⟨h1, h2⟩ := sim_ws hB.head
      simp [h1, h2]
  | cons d q =>
    simp only [List.cons_append]
    unfold esc
    simp only [List.tail_cons]
    split
    · exact Rel.ok _
    · split
      · exact cod_rel (b := c :: d :: q) (List.cons_ne_nil _ _) B q
      · exact Rel.bad (r := c :: d :: q) 54 (List.cons_ne_nil _ _)
end Js
end Go.Proofs.YthfnlnhehececaaDoor

/- A reader's answer, and what it answers where something stands behind: texts, numbers, values. -/
namespace Go.Proofs.YthfnlnhehececaaDoor
namespace Js
theorem cont_cl {B : List UInt8} (h : Cl B) {c : UInt8} (hc : B.head? = some c) : cont c = false := by
  have := (h c hc).1
  simp [cont]; omega
theorem u8c_app {B : List UInt8} (hB : Cl B) {l : List UInt8} (hl : l ≠ []) : u8c (l ++ B) = u8c l := by
  obtain ⟨a, r, rfl⟩ := List.exists_cons_of_ne_nil hl
  have hk : ∀ c, B.head? = some c → cont c = false := fun c hc => cont_cl hB hc
  have nk : ∀ c q, B = c :: q → cont c = false := fun c q h => hk c (by rw [h]; rfl)
  rw [List.cons_append]
  simp only [u8c]
  by_cases h1 : a.toNat < 128
  · rw [if_pos h1, if_pos h1]
  rw [if_neg h1, if_neg h1]
  by_cases h2 : 194 ≤ a.toNat ∧ a.toNat < 224
  · rw [if_pos h2, if_pos h2]
    rcases r with _ | ⟨b, r⟩
    · rcases B with _ | ⟨c, q⟩
      · rfl
      · simp [nk c q rfl]
    · rfl
  rw [if_neg h2, if_neg h2]
  by_cases h3 : 224 ≤ a.toNat ∧ a.toNat < 240
  · rw [if_pos h3, if_pos h3]
    rcases r with _ | ⟨b, _ | ⟨c, r⟩⟩
    · rcases B with _ | ⟨c, _ | ⟨d, q⟩⟩
      · rfl
      · rfl
      · simp [nk c (d :: q) rfl]
    · rcases B with _ | ⟨c, q⟩
      · rfl
      · simp [nk c q rfl]
    · rfl
  rw [if_neg h3, if_neg h3]
  by_cases h4 : 240 ≤ a.toNat ∧ a.toNat < 245
  · rw [if_pos h4, if_pos h4]
    rcases r with _ | ⟨b, _ | ⟨c, _ | ⟨d, r⟩⟩⟩
    · rcases B with _ | ⟨c, _ | ⟨d, _ | ⟨e, q⟩⟩⟩
      · rfl
      · rfl
      · rfl
      · simp [nk c (d :: e :: q) rfl]
    · rcases B with _ | ⟨c, _ | ⟨d, q⟩⟩
      · rfl
      · rfl
      · simp [nk c (d :: q) rfl]
    · rcases B with _ | ⟨e, q⟩
      · rfl
      · simp [nk e q rfl]
    · rfl
  rw [if_neg h4, if_neg h4]
theorem head_app {B l : List UInt8} (h : l ≠ []) : (l ++ B).head? = l.head? := by
  obtain ⟨a, r, rfl⟩ := List.exists_cons_of_ne_nil h
  rfl
theorem tail_app {B l : List UInt8} (h : l ≠ []) : (l ++ B).tail = l.tail ++ B := by
  obtain ⟨a, r, rfl⟩ := List.exists_cons_of_ne_nil h
  rfl
theorem chr_rel {B : List UInt8} (hB : Cl B) {l : List UInt8} (hl : l ≠ []) : Rel B (chr l) (chr (l ++ B)) := by
  unfold chr
  rw [head_app hl, u8c_app hB hl]
  split
  · obtain ⟨a, r, rfl⟩ := List.exists_cons_of_ne_nil hl
    exact esc_rel B a r
  · cases h : u8c l with
    | none => exact Rel.bad 54 hl
    | some x =>
      obtain ⟨c, n⟩ := x
      obtain ⟨_, _, hn, _⟩ := enc_u8c h
      refine Rel.ite (Rel.bad 54 hl) ?_
      rw [List.drop_append_of_le_length hn]
      exact Rel.ok c
/-- In a text blanks alone have no end. -/
theorem tx_bl : ∀ (n : Nat) {B : List UInt8}, Bl B → B.length < n → ∃ r, tx n B = .bad 54 r
  | 0, _, _, h => by omega
  | n + 1, [], _, _ => ⟨[], rfl⟩
  | n + 1, c :: r, hB, h => by
    rcases isWs_cases hB.head with rfl | rfl | rfl | rfl
    · obtain ⟨q, hq⟩ := tx_bl n hB.tail (by simp only [List.length_cons] at h; omega)
      refine ⟨q, ?_⟩
      rw [tx_step (x := 32) (q := r) (by simp) rfl, hq]; rfl
    · exact ⟨_, tx_stop (by simp) rfl⟩
    · exact ⟨_, tx_stop (by simp) rfl⟩
    · exact ⟨_, tx_stop (by simp) rfl⟩
theorem tx_rel {B : List UInt8} (hB : Cl B) : ∀ (n m : Nat) (l : List UInt8), l.length < n → (l ++ B).length < m → Rel B (tx n l) (tx m (l ++ B))
  | 0, _, l, h, _ => by omega
  | n + 1, 0, l, _, h => by omega
  | n + 1, m + 1, l, hn, hm => by
    by_cases hl : l = []
    · subst hl
      exact Rel.end 54 fun hb => tx_bl (m + 1) hb (by simpa using hm)
    · rw [tx, tx, head_app hl, tail_app hl]
      split
      · exact Rel.ok _
      · refine (chr_rel hB hl).bind fun c r hc => ?_
        have hr : r.length < l.length := by have := chr_con l; rw [hc] at this; exact this
        refine Rel.map _ (tx_rel hB n m r (by omega) ?_)
        simp only [List.length_append] at hm ⊢
        omega
theorem quoted_rel {B : List UInt8} (hB : Cl B) (l : List UInt8) : Rel B (quoted l) (quoted (l ++ B)) := by
  unfold quoted
  exact (tk_rel (by decide) B l).bind fun _ r _ => tx_rel hB _ _ r (Nat.lt_succ_self _) (Nat.lt_succ_self _)
theorem dgs_app {B : List UInt8} (hB : Cl B) : ∀ l : List UInt8, dgs (l ++ B) = dgs l
  | [] => by
    cases B with
    | nil => rfl
    | cons c r => show dgs (c :: r) = 0; rw [dgs, (hB c rfl).2.1]; rfl
  | c :: r => by
    rw [List.cons_append, dgs, dgs, dgs_app hB r]
theorem drop_app {B l : List UInt8} {a : Nat} (h : a ≤ l.length) : (l ++ B).drop a = l.drop a ++ B := List.drop_append_of_le_length h
theorem bDig_app {B : List UInt8} (hB : Cl B) {l : List UInt8} {a : Nat} (h : a ≤ l.length) : bDig (l ++ B) a = bDig l a := by
  unfold bDig; rw [drop_app h, dgs_app hB]
theorem hd_app {B : List UInt8} {l : List UInt8} {a : Nat} (h : a ≤ l.length) {x : UInt8} (hx : B.head? ≠ some x) : (((l ++ B).drop a).head? = some x) ↔ ((l.drop a).head? = some x) := by
  rw [drop_app h]
  by_cases hl : l.drop a = []
  · rw [hl]; simp only [List.nil_append, List.head?_nil]
    exact ⟨fun h => absurd h hx, fun h => by cases h⟩
  · rw [head_app hl]
theorem Cl.ne {B : List UInt8} (h : Cl B) : B.head? ≠ some 45 ∧ B.head? ≠ some 48 ∧ B.head? ≠ some 46 ∧ isE B.head? = false ∧ isPm B.head? = false := by
  cases hh : B.head? with
  | none => exact ⟨by simp, by simp, by simp, rfl, rfl⟩
  | some c =>
    obtain ⟨_, h2, h3, h4, h5⟩ := h c hh
    refine ⟨?_, ?_, ?_, h4, h5⟩
    · intro h; obtain rfl := Option.some.inj h; simp [isPm] at h5
    · intro h; obtain rfl := Option.some.inj h; simp [isDg] at h2
    · intro h; exact h3 (Option.some.inj h)
theorem isE_app {B : List UInt8} (hB : Cl B) {l : List UInt8} {a : Nat} (h : a ≤ l.length) : isE ((l ++ B).drop a).head? = isE (l.drop a).head? := by
  rw [drop_app h]
  by_cases hl : l.drop a = []
  · rw [hl]; exact hB.ne.2.2.2.1
  · rw [head_app hl]
theorem isPm_app {B : List UInt8} (hB : Cl B) {l : List UInt8} {a : Nat} (h : a ≤ l.length) : isPm ((l ++ B).drop a).head? = isPm (l.drop a).head? := by
  rw [drop_app h]
  by_cases hl : l.drop a = []
  · rw [hl]; exact hB.ne.2.2.2.2
  · rw [head_app hl]
theorem bInt_app {B : List UInt8} (hB : Cl B) (l : List UInt8) : bInt (l ++ B) = bInt l := by
  have key : ∀ a, a ≤ l.length → (if ((l ++ B).drop a).head? = some 48 then (a + 1, true) else bDig (l ++ B) a) = (if (l.drop a).head? = some 48 then (a + 1, true) else bDig l a) := fun a ha => by
    simp only [hd_app ha hB.ne.2.1, bDig_app hB ha]
  unfold bInt
  have h0 := hd_app (l := l) (a := 0) (Nat.zero_le _) hB.ne.1
  simp only [List.drop_zero] at h0
  simp only [h0]
  split
  · rename_i h
    refine key 1 ?_
    cases l with
    | nil => cases h
    | cons c r => simp
  · exact key 0 (Nat.zero_le _)
theorem bFrac_app {B : List UInt8} (hB : Cl B) {l : List UInt8} {x : Nat × Bool} (h : x.1 ≤ l.length) : bFrac (l ++ B) x = bFrac l x := by
  unfold bFrac
  simp only [hd_app h hB.ne.2.2.1]
  split
  · rename_i h2
    exact bDig_app hB (by have := head_len h2.2; omega)
  · rfl
theorem bExp_app {B : List UInt8} (hB : Cl B) {l : List UInt8} {x : Nat × Bool} (h : x.1 ≤ l.length) : bExp (l ++ B) x = bExp l x := by
  unfold bExp
  simp only [isE_app hB h]
  split
  · rename_i h2
    have h3 := isE_len h2.2
    simp only [isPm_app hB (show x.1 + 1 ≤ l.length by omega)]
    split
    · rename_i h4
      exact bDig_app hB (by have := isPm_len h4; omega)
    · exact bDig_app hB (by omega)
  · rfl
theorem nsz_app {B : List UInt8} (hB : Cl B) (l : List UInt8) : nsz (l ++ B) = nsz l := by
  unfold nsz
  rw [bInt_app hB, bFrac_app hB (bInt_le l).1, bExp_app hB (bFrac_le l _ (bInt_le l).1).1]
theorem num_rel {B : List UInt8} (hB : Cl B) {l : List UInt8} : Rel B (num l) (num (l ++ B)) := by
  have hle := (nsz_le l).1
  unfold num
  rw [nsz_app hB, drop_app hle, List.take_append_of_le_length hle]
  split
  · exact Rel.ok _
  · by_cases h : l.drop (nsz l).1 = []
    · rw [h]
      exact Rel.end 54 fun _ => ⟨_, rfl⟩
    · exact Rel.bad 54 h
theorem mems_rel {α : Type} {e : UInt8} (B : List UInt8) (f : List UInt8 → Rs α) (hcon : ∀ l, (f l).Con l) (hn : f [] = .bad 54 []) (hf : ∀ l, l ≠ [] → Rel B (f l) (f (l ++ B))) :
    ∀ (n m : Nat) (b : Bool) (l : List UInt8), l ≠ [] → l.length < n → (l ++ B).length < m → Rel B (mems e f n b l) (mems e f m b (l ++ B))
  | 0, _, _, l, _, h, _ => by omega
  | n + 1, 0, _, l, _, _, h => by omega
  | n + 1, m + 1, b, l, hl, h1, h2 => by
    have step : ∀ q : List UInt8, q.length ≤ l.length → Rel B ((f q).bind fun a r => (mems e f n false (ws r)).map (a :: ·)) ((f (q ++ B)).bind fun a r => (mems e f m false (ws r)).map (a :: ·)) ∨ q = [] := fun q hq => by
      by_cases hq0 : q = []
      · exact Or.inr hq0
      · refine Or.inl ((hf q hq0).bind fun a r hr => Rel.map _ ?_)
        have hr2 : r.length < q.length := by have := hcon q; rw [hr] at this; exact this
        have hw := ws_len r
        by_cases he : ws r = []
        · rw [he, ws_gone he]
          have hz : mems e f n false [] = .bad 54 [] := by
            obtain ⟨n, rfl⟩ : ∃ k, n = k + 1 := ⟨n - 1, by omega⟩
            exact mems_miss e f n [] (by simp) (by simp)
          rw [hz]
          refine Rel.end 54 fun hb => ?_
          rw [ws_bl hb]
          obtain ⟨m, rfl⟩ : ∃ k, m = k + 1 := ⟨m - 1, by simp only [List.length_append] at h2; omega⟩
          exact ⟨[], mems_miss e f m [] (by simp) (by simp)⟩
        · rw [ws_app he]
          refine mems_rel B f hcon hn hf n m false (ws r) he (by omega) ?_
          simp only [List.length_append] at h2 ⊢
          omega
    by_cases he : l.head? = some e
    · obtain ⟨q, rfl⟩ := head_cons he
      rw [List.cons_append, mems_end, mems_end]
      exact Rel.ok _
    · have he' : (l ++ B).head? ≠ some e := by rw [head_app hl]; exact he
      cases b with
      | true =>
        rw [mems_fst e f n l he, mems_fst e f m _ he']
        rcases step l (Nat.le_refl _) with h | h
        · exact h
        · exact absurd h hl
      | false =>
        by_cases hc : l.head? = some 44
        · obtain ⟨q, rfl⟩ := head_cons hc
          rw [List.cons_append] at he' ⊢
          rw [mems_comma e f n q he, mems_comma e f m _ he']
          by_cases hq : ws q = []
          · rw [hq, ws_gone hq, hn]
            refine Rel.end 54 fun hb => ?_
            rw [ws_bl hb, hn]
            exact ⟨[], rfl⟩
          · rw [ws_app hq]
            rcases step (ws q) (by have := ws_len q; simp only [List.length_cons]; omega) with h | h
            · exact h
            · exact absurd h hq
        · rw [mems_miss e f n l he hc, mems_miss e f m _ he' (by rw [head_app hl]; exact hc)]
          exact Rel.bad 54 hl
theorem mem_rel {B : List UInt8} (hB : Cl B) (f : List UInt8 → Rs J) (hn : f [] = .bad 54 []) (hf : ∀ l, l ≠ [] → Rel B (f l) (f (l ++ B))) (l : List UInt8) : Rel B (mem f l) (mem f (l ++ B)) := by
  unfold mem
  refine (quoted_rel hB l).bind fun nm r _ => ?_
  refine Rel.bind (Rel.ws (h := tk 58) (h' := tk 58) ⟨54, rfl⟩ rfl (fun l _ => tk_rel (by decide) B l) r) fun _ r2 _ => ?_
  exact Rel.map _ (Rel.ws (h := f) (h' := f) ⟨54, hn⟩ hn hf r2)
theorem val_nil : ∀ d, val d [] = .bad 54 []
  | 0 => rfl
  | _ + 1 => rfl
theorem vstep_rel {B : List UInt8} (hB : Cl B) (f : Option (List UInt8 → Rs J)) (hs : ∀ g, f = some g → ∀ l, (g l).Suf l) (hcon : ∀ g, f = some g → ∀ l, (g l).Con l) (hn : ∀ g, f = some g → g [] = .bad 54 []) (hf : ∀ g, f = some g → ∀ l, l ≠ [] → Rel B (g l) (g (l ++ B))) (l : List UInt8) (hl : l ≠ []) :
    Rel B (vstep f l) (vstep f (l ++ B)) := by
  unfold vstep
  rw [head_app hl, tail_app hl]
  refine Rel.ite (Rel.map _ (wd_rel B _ (by decide) l)) (Rel.ite (Rel.map _ (wd_rel B _ (by decide) l)) (Rel.ite (Rel.map _ (wd_rel B _ (by decide) l)) (Rel.ite (Rel.map _ (quoted_rel hB l)) (Rel.ite ?_ (Rel.ite ?_ (num_rel hB))))))
  · cases f with
    | none => exact Rel.bad 57 hl
    | some g =>
      refine Rel.map _ ?_
      have hw := ws_len l.tail
      have ht : l.tail.length < l.length := by obtain ⟨a, r, rfl⟩ := List.exists_cons_of_ne_nil hl; simp
      by_cases he : ws l.tail = []
      · rw [he, ws_gone he]
        rw [mems_fst 93 g _ [] (by simp), hn g rfl]
        refine Rel.end 54 fun hb => ?_
        rw [ws_bl hb, mems_fst 93 g _ [] (by simp), hn g rfl]
        exact ⟨[], rfl⟩
      · rw [ws_app he]
        refine mems_rel B g (hcon g rfl) (hn g rfl) (hf g rfl) _ _ true _ he (by omega) ?_
        simp only [List.length_append]; omega
  · cases f with
    | none => exact Rel.bad 57 hl
    | some g =>
      refine Rel.map _ ?_
      have hw := ws_len l.tail
      have ht : l.tail.length < l.length := by obtain ⟨a, r, rfl⟩ := List.exists_cons_of_ne_nil hl; simp
      by_cases he : ws l.tail = []
      · rw [he, ws_gone he]
        rw [mems_fst 125 (mem g) _ [] (by simp)]
        refine Rel.end 54 fun hb => ?_
        rw [ws_bl hb, mems_fst 125 (mem g) _ [] (by simp)]
        exact ⟨[], rfl⟩
      · rw [ws_app he]
        refine mems_rel B (mem g) (mem_con g (hs g rfl)) rfl (fun l _ => mem_rel hB g (hn g rfl) (hf g rfl) l) _ _ true _ he (by omega) ?_
        simp only [List.length_append]; omega
theorem val_rel {B : List UInt8} (hB : Cl B) : ∀ (d : Nat) (l : List UInt8), l ≠ [] → Rel B (val d l) (val d (l ++ B))
  | 0 => vstep_rel hB none (fun g h => by cases h) (fun g h => by cases h) (fun g h => by cases h) (fun g h => by cases h)
  | d + 1 => vstep_rel hB (some (val d)) (fun g h => by cases h; exact val_suf d) (fun g h => by cases h; exact val_con d) (fun g h => by cases h; exact val_nil d) (fun g h => by cases h; exact val_rel hB d)
/-- One more that may be around it: the same, or it was too deep. -/
def Dp {α : Type} (x y : Rs α) : Prop := x = y ∨ ∃ r, x = .bad 57 r
theorem Dp.bind {α β : Type} {x y : Rs α} {g g' : α → List UInt8 → Rs β} (h : Dp x y) (k : ∀ a r, Dp (g a r) (g' a r)) : Dp (x.bind g) (y.bind g') := by
  rcases h with rfl | ⟨r, rfl⟩
  · cases x with
    | ok a r => exact k a r
    | bad c r => exact Or.inl rfl
  · exact Or.inr ⟨r, rfl⟩
theorem Dp.map {α β : Type} {x y : Rs α} (f : α → β) (h : Dp x y) : Dp (x.map f) (y.map f) := by
  rcases h with rfl | ⟨r, rfl⟩
  · exact Or.inl rfl
  · exact Or.inr ⟨r, rfl⟩
theorem mems_dp {α : Type} (e : UInt8) (f g : List UInt8 → Rs α) (h : ∀ l, Dp (f l) (g l)) : ∀ (n : Nat) (b : Bool) (l : List UInt8), Dp (mems e f n b l) (mems e g n b l)
  | 0, _, _ => Or.inl rfl
  | n + 1, b, l => by
    rw [mems, mems]
    split
    · exact Or.inl rfl
    · exact Dp.bind (Or.inl rfl) fun _ l1 => (h l1).bind fun a r => (mems_dp e f g h n false (ws r)).map _
theorem mem_dp (f g : List UInt8 → Rs J) (h : ∀ l, Dp (f l) (g l)) (l : List UInt8) : Dp (mem f l) (mem g l) := by
  unfold mem
  exact Dp.bind (Or.inl rfl) fun nm r => Dp.bind (Or.inl rfl) fun _ r2 => (h _).map _
theorem Dp.ite {α : Type} {c : Prop} [Decidable c] {x y x' y' : Rs α} (h : Dp x x') (k : Dp y y') : Dp (if c then x else y) (if c then x' else y') := by
  split
  · exact h
  · exact k
theorem val_dp : ∀ (d : Nat) (l : List UInt8), Dp (val d l) (val (d + 1) l)
  | 0, l => by
    unfold val vstep
    refine Dp.ite (Or.inl rfl) (Dp.ite (Or.inl rfl) (Dp.ite (Or.inl rfl) (Dp.ite (Or.inl rfl) (Dp.ite (Or.inr ⟨_, rfl⟩) (Dp.ite (Or.inr ⟨_, rfl⟩) (Or.inl rfl))))))
  | d + 1, l => by
    rw [val, val]
    unfold vstep
    exact Dp.ite (Or.inl rfl) (Dp.ite (Or.inl rfl) (Dp.ite (Or.inl rfl) (Dp.ite (Or.inl rfl) (Dp.ite ((mems_dp 93 _ _ (val_dp d) _ _ _).map _) (Dp.ite ((mems_dp 125 _ _ (mem_dp _ _ (val_dp d)) _ _ _).map _) (Or.inl rfl))))))
end Js
end Go.Proofs.YthfnlnhehececaaDoor

/- What a text tells with blanks about it, in a list, under a name. -/
namespace Go.Proofs.YthfnlnhehececaaDoor
namespace Js
theorem deep_rest {d : Nat} {l r : List UInt8} (h : val d l = .bad 57 r) : r ≠ [] := by
  intro hr
  by_cases hl : l = []
  · subst hl; rw [val_nil] at h; cases h
  · have := val_rel (B := []) (fun c hc => by cases hc) d l hl
    rw [h] at this
    obtain ⟨r', h'⟩ := this.2 (fun c hc => by cases hc) hr
    rw [List.append_nil, h] at h'
    cases h'
theorem parse_ok {s : List UInt8} {j : J} (h : parse s = .ok j) : s.length ≤ 8000 ∧ ∃ r, val 20 (ws s) = .ok j r ∧ ws r = [] := by
  unfold parse at h
  split at h
  · cases h
  · rename_i h0
    refine ⟨by omega, ?_⟩
    split at h
    · cases h
    · rename_i k r hv
      split at h
      · rename_i hr
        injection h with h; subst h
        exact ⟨r, hv, List.isEmpty_iff.1 hr⟩
      · cases h
theorem parse_of {s : List UInt8} {j : J} {r : List UInt8} (h : s.length ≤ 8000) (hv : val 20 (ws s) = .ok j r) (hr : ws r = []) : parse s = .ok j := by
  unfold parse
  rw [if_neg (by omega), hv]
  simp only [hr]
  rfl
theorem parse_no {s : List UInt8} {c : Nat} {r : List UInt8} (h : s.length ≤ 8000) (hv : val 20 (ws s) = .bad c r) : parse s = .bad c (s.length - r.length) := by
  unfold parse
  rw [if_neg (by omega), hv]
theorem ws_pre : ∀ {B : List UInt8} (s : List UInt8), Bl B → ws (B ++ s) = ws s
  | [], s, _ => rfl
  | c :: r, s, h => by rw [List.cons_append, ws, if_pos h.head]; exact ws_pre s h.tail
/-- Blanks ahead of and behind a text. -/
theorem parse_blanks {s B : List UInt8} (hs : s.length ≤ 7000) (hB : Bl B) (hn : B.length ≤ 100) :
    match parse s with
    | .ok j => parse (B ++ s ++ B) = .ok j
    | .bad c p => ∃ p', parse (B ++ s ++ B) = .bad c p' ∧ (p' = p + B.length ∨ p = s.length) := by
  have hl : (B ++ s ++ B).length = s.length + 2 * B.length := by simp; omega
  have hw : ws (B ++ s ++ B) = ws (s ++ B) := by rw [List.append_assoc, ws_pre _ hB]
  by_cases he : ws s = []
  · have hv : val 20 (ws s) = .bad 54 [] := by rw [he, val_nil]
    rw [parse_no (by omega) hv]
    refine ⟨_, parse_no (by omega) (by rw [hw, ws_gone he, ws_bl hB, val_nil]), Or.inr (by simp)⟩
  have hr := val_rel hB.cl 20 (ws s) he
  rw [← ws_app he, ← hw] at hr
  cases hv : val 20 (ws s) with
  | ok j r =>
    rw [hv] at hr
    have hr' : val 20 (ws (B ++ s ++ B)) = .ok j (r ++ B) := hr
    by_cases h0 : ws r = []
    · rw [parse_of (by omega) hv h0]
      exact parse_of (by omega) hr' (by rw [ws_gone h0, ws_bl hB])
    · have h1 : parse s = .bad 54 (s.length - (ws r).length) := by
        unfold parse
        rw [if_neg (by omega), hv]
        simp only []
        rw [if_neg (by simpa using h0)]
      have h2 : parse (B ++ s ++ B) = .bad 54 ((B ++ s ++ B).length - (ws (r ++ B)).length) := by
        unfold parse
        rw [if_neg (by omega), hr']
        simp only []
        rw [if_neg (by rw [ws_app h0]; simpa using fun h => absurd h h0)]
      rw [h1]
      refine ⟨_, h2, Or.inl ?_⟩
      rw [hl, ws_app h0, List.length_append]
      have : (ws r).length ≤ s.length := by
        have a := ws_len r
        have b := (val_suf 20 (ws s))
        rw [hv] at b
        have b' : r <:+ ws s := b
        have := b'.length_le
        have := ws_len s
        omega
      omega
  | bad c r =>
    rw [hv] at hr
    rw [parse_no (by omega) hv]
    by_cases h0 : r = []
    · subst h0
      obtain ⟨r', h'⟩ := hr.2 hB rfl
      have hc : c = 54 := by
        have := val_rel (B := []) (fun c hc => by cases hc) 20 (ws s) he
        rw [hv] at this
        obtain ⟨q, hq⟩ := this.2 (fun c hc => by cases hc) rfl
        rw [List.append_nil, hv] at hq
        injection hq
      subst hc
      exact ⟨_, parse_no (by omega) h', Or.inr (by simp)⟩
    · refine ⟨_, parse_no (by omega) (hr.1 h0), Or.inl ?_⟩
      have b := (val_suf 20 (ws s))
      rw [hv] at b
      have b' : r <:+ ws s := b
      have := b'.length_le
      have := ws_len s
      rw [hl, List.length_append]
      omega
theorem val_end (d : Nat) (e : UInt8) (he : e = 93 ∨ e = 125) (r : List UInt8) (j : J) (q : List UInt8) : val d (e :: r) ≠ .ok j q := by
  have : val d (e :: r) = .bad 54 (e :: r) := by
    rcases he with rfl | rfl <;> cases d <;> rfl
  rw [this]; intro h; cases h
/-- A value within a list. -/
theorem parse_list {s : List UInt8} {j : J} (hs : s.length ≤ 7000) (h : parse s = .ok j) :
    (parse (91 :: (s ++ [44, 48, 93])) = .ok (.mk 6 [] [] [j, .mk 4 [48] [] []]) ∧ parse (123 :: 34 :: 110 :: 34 :: 58 :: (s ++ [125])) = .ok (.mk 7 [] [[110]] [j])) ∨
    ∃ p q, parse (91 :: (s ++ [44, 48, 93])) = .bad 57 p ∧ parse (123 :: 34 :: 110 :: 34 :: 58 :: (s ++ [125])) = .bad 57 q := by
  obtain ⟨_, r, hv, hr⟩ := parse_ok h
  have he : ws s ≠ [] := by intro h0; rw [h0, val_nil] at hv; cases hv
  have hh : ∀ e : UInt8, e = 93 ∨ e = 125 → (ws s).head? ≠ some e := fun e h1 h2 => by
    obtain ⟨q, hq⟩ := head_cons h2
    rw [hq] at hv
    exact val_end 20 e h1 q j r hv
  have c1 : Cl [44, 48, 93] := fun c hc => by obtain rfl := Option.some.inj hc; decide
  have c2 : Cl [125] := fun c hc => by obtain rfl := Option.some.inj hc; decide
  have v1 : val 20 (ws (91 :: (s ++ [44, 48, 93]))) = (mems 93 (val 19) ((91 :: (s ++ [44, 48, 93])).length + 1) true (ws (s ++ [44, 48, 93]))).map fun ks => .mk 6 [] [] ks := by
    rw [ws_off (by decide)]; rfl
  have v2 : val 20 (ws (123 :: 34 :: 110 :: 34 :: 58 :: (s ++ [125]))) = (mems 125 (mem (val 19)) ((123 :: 34 :: 110 :: 34 :: 58 :: (s ++ [125])).length + 1) true (34 :: 110 :: 34 :: 58 :: (s ++ [125]))).map fun ms => .mk 7 [] (ms.map (·.1)) (ms.map (·.2)) := by
    rw [ws_off (by decide)]; rfl
  rw [ws_app he, mems_fst 93 (val 19) _ _ (by rw [head_app he]; exact hh 93 (Or.inl rfl))] at v1
  have hq : ∀ X, quoted (34 :: 110 :: 34 :: X) = .ok [110] X := fun X => by
    show tx ((110 :: 34 :: X).length + 1) (110 :: 34 :: X) = _
    rw [tx_step (x := 110) (q := 34 :: X) (by simp) rfl]
    show Rs.map _ (tx (X.length + 1 + 1) (34 :: X)) = _
    rw [tx_end]; rfl
  rw [mems_fst 125 (mem (val 19)) _ _ (by simp)] at v2
  have v3 : mem (val 19) (34 :: 110 :: 34 :: 58 :: (s ++ [125])) = (val 19 (ws s ++ [125])).map fun j => ([110], j) := by
    unfold mem
    rw [hq, ← ws_app he]
    rfl
  rw [v3] at v2
  have L1 : (91 :: (s ++ [44, 48, 93])).length ≤ 8000 := by simp; omega
  have L2 : (123 :: 34 :: 110 :: 34 :: 58 :: (s ++ [125])).length ≤ 8000 := by simp; omega
  have r1 := val_rel c1 19 (ws s) he
  have r2 := val_rel c2 19 (ws s) he
  rcases val_dp 19 (ws s) with hd | ⟨q, hd⟩
  · left
    rw [hd, hv] at r1 r2
    have r1' : val 19 (ws s ++ [44, 48, 93]) = .ok j (r ++ [44, 48, 93]) := r1
    have r2' : val 19 (ws s ++ [125]) = .ok j (r ++ [125]) := r2
    rw [r1'] at v1
    rw [r2'] at v2
    constructor
    · refine parse_of L1 (r := []) ?_ rfl
      rw [v1]
      show Rs.map _ (Rs.map _ (mems 93 (val 19) (91 :: (s ++ [44, 48, 93])).length false (ws (r ++ [44, 48, 93])))) = _
      rw [ws_gone hr, ws_off (by decide)]
      obtain ⟨k, hk⟩ : ∃ k, (91 :: (s ++ [44, 48, 93])).length = k + 2 := ⟨s.length + 2, by simp⟩
      rw [hk, mems_comma 93 (val 19) (k + 1) _ (by simp), ws_off (by decide)]
      rw [show val 19 [48, 93] = .ok (.mk 4 [48] [] []) [93] from rfl]
      show Rs.map _ (Rs.map _ (Rs.map _ (mems 93 (val 19) (k + 1) false (ws [93])))) = _
      rw [ws_off (by decide), mems_end]
      rfl
    · refine parse_of L2 (r := []) ?_ rfl
      rw [v2]
      show Rs.map _ (Rs.map _ (mems 125 (mem (val 19)) (123 :: 34 :: 110 :: 34 :: 58 :: (s ++ [125])).length false (ws (r ++ [125])))) = _
      rw [ws_gone hr, ws_off (by decide)]
      obtain ⟨k, hk⟩ : ∃ k, (123 :: 34 :: 110 :: 34 :: 58 :: (s ++ [125])).length = k + 1 := ⟨s.length + 5, by simp⟩
      rw [hk, mems_end]
      rfl
  · right
    rw [hd] at r1 r2
    have hq0 := deep_rest hd
    rw [r1.1 hq0] at v1
    rw [r2.1 hq0] at v2
    exact ⟨_, _, parse_no L1 v1, parse_no L2 v2⟩
end Js
end Go.Proofs.YthfnlnhehececaaDoor

/- What is read is right. -/
namespace Go.Proofs.YthfnlnhehececaaDoor
namespace Js
theorem u8n (n : Nat) (h : n < 256) : (UInt8.ofNat n).toNat = n := by simp [Nat.mod_eq_of_lt h]
/-- A character's bytes are that character. -/
theorem u8c_enc {c : Nat} (h : c ≤ 1114111) (hs : ¬ (55296 ≤ c ∧ c ≤ 57343)) (t : List UInt8) : u8c (enc c ++ t) = some (c, (enc c).length) := by
  unfold enc
  split
  · rename_i h1
    simp only [List.cons_append, List.nil_append, u8c, u8n c (by omega), if_pos h1, List.length_cons, List.length_nil]
  split
  · rename_i h1 h2
    simp only [List.cons_append, List.nil_append, u8c, u8n (192 + c / 64) (by omega), u8n (128 + c % 64) (by omega), cont, List.length_cons, List.length_nil]
    rw [if_neg (by omega), if_pos (by omega), if_pos (by simp; omega), show 64 * (192 + c / 64 - 192) + (128 + c % 64 - 128) = c by omega]
  split
  · rename_i h1 h2 h3
    simp only [List.cons_append, List.nil_append, u8c, u8n (224 + c / 4096) (by omega), u8n (128 + c / 64 % 64) (by omega), u8n (128 + c % 64) (by omega), cont, List.length_cons, List.length_nil]
    rw [if_neg (by omega), if_neg (by omega), if_pos (by omega), if_pos (by simp; omega)]
    have e : 4096 * (224 + c / 4096 - 224) + 64 * (128 + c / 64 % 64 - 128) + (128 + c % 64 - 128) = c := by omega
    simp only [e]
    rw [if_neg (by omega)]
  · rename_i h1 h2 h3
    simp only [List.cons_append, List.nil_append, u8c, u8n (240 + c / 262144) (by omega), u8n (128 + c / 4096 % 64) (by omega), u8n (128 + c / 64 % 64) (by omega), u8n (128 + c % 64) (by omega), cont, List.length_cons, List.length_nil]
    rw [if_neg (by omega), if_neg (by omega), if_neg (by omega), if_pos (by omega), if_pos (by simp; omega)]
    have e : 262144 * (240 + c / 262144 - 240) + 4096 * (128 + c / 4096 % 64 - 128) + 64 * (128 + c / 64 % 64 - 128) + (128 + c % 64 - 128) = c := by omega
    simp only [e]
    rw [if_neg (by omega)]
theorem utf_enc {c : Nat} (h : c ≤ 1114111) (hs : ¬ (55296 ≤ c ∧ c ≤ 57343)) (t : List UInt8) : utf (enc c ++ t) = utf t := by
  rw [utf_some (u8c_enc h hs t), List.drop_left]
theorem un_lt (b : List UInt8) : ∀ (n a : Nat) (l : List UInt8) (x : Nat) (r : List UInt8), un b n a l = .ok x r → x < 16 ^ n * (a + 1)
  | 0, a, l, x, r, h => by cases h; simp
  | _ + 1, _, [], _, _, h => by cases h
  | n + 1, a, c :: l, x, r, h => by
    unfold un at h
    split at h
    · cases h
    · rename_i v hq
      have := un_lt b n (16 * a + v) l x r h
      have hv' : v < 16 := by
        unfold hv at hq
        split at hq
        · obtain rfl := Option.some.inj hq; omega
        split at hq
        · obtain rfl := Option.some.inj hq; omega
        split at hq
        · obtain rfl := Option.some.inj hq; omega
        · cases hq
      refine Nat.lt_of_lt_of_le this ?_
      rw [Nat.pow_succ, Nat.mul_assoc]
      exact Nat.mul_le_mul_left _ (by omega)
/-- A character that is none of a half. -/
def Sc (c : Nat) : Prop := c ≤ 1114111 ∧ ¬ (55296 ≤ c ∧ c ≤ 57343)
theorem bind_ok {α β : Type} {x : Rs α} {f : α → List UInt8 → Rs β} {b : β} {q : List UInt8} (h : x.bind f = .ok b q) : ∃ a r, x = .ok a r ∧ f a r = .ok b q := by
  cases x with
  | ok a r => exact ⟨a, r, rfl, h⟩
  | bad c r => cases h
theorem map_ok {α β : Type} {x : Rs α} {f : α → β} {b : β} {q : List UInt8} (h : x.map f = .ok b q) : ∃ a, x = .ok a q ∧ f a = b := by
  cases x with
  | ok a r => injection h with h1 h2; subst h2; exact ⟨a, rfl, h1⟩
  | bad c r => cases h
theorem low_sc {b : List UInt8} {c : Nat} {l : List UInt8} {x : Nat} {r : List UInt8} (hc : half c = true) (hc2 : lowH c = false) (h : low b c l = .ok x r) : Sc x := by
  unfold low at h
  obtain ⟨m, q, _, h⟩ := bind_ok h
  split at h
  · rename_i hm
    injection h with h _
    have h1 := (half_iff c).1 hc
    have h2 : ¬ (56320 ≤ c ∧ c ≤ 57343) := fun h => by rw [(lowH_iff c).2 h] at hc2; cases hc2
    have h3 := (lowH_iff m).1 hm
    rw [both_eq] at h
    subst h
    constructor <;> omega
  · cases h
theorem cod_sc {b l : List UInt8} {x : Nat} {r : List UInt8} (h : cod b l = .ok x r) : Sc x := by
  unfold cod at h
  obtain ⟨c, q, hu, h⟩ := bind_ok h
  have hlt := un_lt b 4 0 l c q hu
  split at h
  · rename_i hh
    split at h
    · cases h
    · rename_i hl
      obtain ⟨_, r2, _, h⟩ := bind_ok h
      obtain ⟨_, r3, _, h⟩ := bind_ok h
      exact low_sc hh (by simpa using hl) h
  · rename_i hh
    injection h with h _
    subst h
    have h2 : ¬ (55296 ≤ c ∧ c ≤ 57343) := fun h => hh ((half_iff c).2 h)
    exact ⟨by omega, h2⟩
theorem sim_sc {c : UInt8} {x : Nat} (h : sim c = some x) : Sc x := by
  unfold sim at h
  repeat' split at h
  all_goals first | (obtain rfl := Option.some.inj h; exact ⟨by omega, by omega⟩) | cases h
theorem esc_sc {l : List UInt8} {x : Nat} {r : List UInt8} (h : esc l = .ok x r) : Sc x := by
  unfold esc at h
  split at h
  · cases h
  · split at h
    · rename_i hs
      injection h with h _; subst h
      exact sim_sc hs
    · split at h
      · exact cod_sc h
      · cases h
theorem chr_sc {l : List UInt8} {x : Nat} {r : List UInt8} (h : chr l = .ok x r) : Sc x := by
  unfold chr at h
  split at h
  · exact esc_sc h
  · split at h
    · cases h
    · rename_i c n hu
      split at h
      · cases h
      · injection h with h _; subst h
        obtain ⟨_, _, _, _, h1, h2⟩ := enc_u8c hu
        exact ⟨h1, h2⟩
theorem chr_lt {l : List UInt8} {x : Nat} {r : List UInt8} (h : chr l = .ok x r) : r.length < l.length := by
  have := chr_con l; rw [h] at this; exact this
theorem tx_good : ∀ (n : Nat) (l t r : List UInt8), tx n l = .ok t r → utf t = true ∧ t.length ≤ 4 * (l.length - r.length) ∧ r.length < l.length
  | 0, _, _, _, h => by cases h
  | n + 1, l, t, r, h => by
    unfold tx at h
    split at h
    · rename_i hl
      injection h with h1 h2
      subst h1 h2
      obtain ⟨q, rfl⟩ := head_cons hl
      exact ⟨utf_nil, by simp, by simp⟩
    · obtain ⟨c, q, hc, h⟩ := bind_ok h
      obtain ⟨t', hk, rfl⟩ := map_ok h
      obtain ⟨h1, h2, h3⟩ := tx_good n q t' r hk
      have h4 := chr_lt hc
      have h5 := chr_sc hc
      refine ⟨by rw [utf_enc h5.1 h5.2]; exact h1, ?_, by omega⟩
      have := (enc_len c).2
      rw [List.length_append]; omega
theorem quoted_good {l t r : List UInt8} (h : quoted l = .ok t r) : utf t = true ∧ t.length ≤ 4 * (l.length - r.length) ∧ r.length < l.length := by
  unfold quoted at h
  obtain ⟨_, q, hq, h⟩ := bind_ok h
  obtain rfl := tk_ok hq
  obtain ⟨h1, h2, h3⟩ := tx_good _ _ _ _ h
  exact ⟨h1, by simp only [List.length_cons]; omega, by simp only [List.length_cons]; omega⟩
-- a number alone
theorem take_drop_head (l : List UInt8) {n a : Nat} (h : a < n) : ((l.take n).drop a).head? = (l.drop a).head? := by
  simp [List.head?_drop, List.getElem?_take_of_lt h]
theorem take_drop_nil (l : List UInt8) {n a : Nat} (h : n ≤ a) : (l.take n).drop a = [] := by
  apply List.drop_eq_nil_of_le
  rw [List.length_take]; omega
theorem dgs_take : ∀ (l : List UInt8) (k : Nat), dgs l ≤ k → dgs (l.take k) = dgs l
  | [], k, _ => by simp
  | c :: r, 0, h => by
    rw [List.take_zero]
    have : dgs (c :: r) = 0 := by omega
    rw [this]; rfl
  | c :: r, k + 1, h => by
    rw [List.take_succ_cons, dgs, dgs]
    rw [dgs] at h
    split
    · rename_i hc
      rw [if_pos hc] at h
      rw [dgs_take r k (by omega)]
    · rfl
theorem bDig_take {l : List UInt8} {a n : Nat} (h : (bDig l a).1 ≤ n) : bDig (l.take n) a = bDig l a := by
  unfold bDig at h ⊢
  have h' : dgs (l.drop a) ≤ n - a := by simp only at h; omega
  rw [List.drop_take, dgs_take _ _ h']
theorem bInt_take {l : List UInt8} {n : Nat} (h2 : (bInt l).2 = true) (h : (bInt l).1 ≤ n) : bInt (l.take n) = bInt l := by
  have hp := (bInt_le l).2 h2
  have h0 : (l.take n).head? = l.head? := by
    have := take_drop_head l (n := n) (a := 0) (by omega)
    simpa using this
  have key : ∀ a : Nat, (if (l.drop a).head? = some 48 then (a + 1, true) else bDig l a).2 = true → (if (l.drop a).head? = some 48 then (a + 1, true) else bDig l a).1 ≤ n →
      (if ((l.take n).drop a).head? = some 48 then (a + 1, true) else bDig (l.take n) a) = (if (l.drop a).head? = some 48 then (a + 1, true) else bDig l a) := fun a k1 k2 => by
    have ha : a < n := by
      split at k2
      · simp only at k2; omega
      · rename_i hn
        rw [if_neg hn] at k1
        unfold bDig at k1 k2
        simp only [decide_eq_true_eq] at k1 k2
        omega
    rw [take_drop_head l ha]
    split
    · rfl
    · rename_i hn
      rw [if_neg hn] at k2
      exact bDig_take k2
  unfold bInt at h2 h ⊢
  rw [h0]
  exact key _ h2 h
theorem bFrac_take {l : List UInt8} {n : Nat} {x : Nat × Bool} (h : (bFrac l x).1 ≤ n) : bFrac (l.take n) x = bFrac l x := by
  unfold bFrac at h ⊢
  by_cases hc : x.2 = true ∧ (l.drop x.1).head? = some 46
  · rw [if_pos hc] at h ⊢
    have ha : x.1 < n := by unfold bDig at h; simp only at h; omega
    rw [take_drop_head l ha, if_pos hc]
    exact bDig_take h
  · rw [if_neg hc] at h ⊢
    refine if_neg fun hc' => hc ⟨hc'.1, ?_⟩
    have h3 := hc'.2
    by_cases ha : x.1 < n
    · rw [take_drop_head l ha] at h3; exact h3
    · rw [take_drop_nil l (by omega)] at h3; cases h3
theorem bExp_take {l : List UInt8} {n : Nat} {x : Nat × Bool} (h2 : (bExp l x).2 = true) (h : (bExp l x).1 ≤ n) : bExp (l.take n) x = bExp l x := by
  unfold bExp at h2 h ⊢
  by_cases hc : x.2 = true ∧ isE (l.drop x.1).head? = true
  · rw [if_pos hc] at h2 h ⊢
    have ha : x.1 + 1 < n := by
      unfold bDig at h h2
      simp only [decide_eq_true_eq] at h h2
      split at h2
      · rename_i hp; rw [if_pos hp] at h; omega
      · rename_i hp; rw [if_neg hp] at h; omega
    rw [take_drop_head l (show x.1 < n by omega), if_pos hc, take_drop_head l ha]
    exact bDig_take h
  · rw [if_neg hc] at h2 h ⊢
    refine if_neg fun hc' => hc ⟨hc'.1, ?_⟩
    have h3 := hc'.2
    by_cases ha : x.1 < n
    · rw [take_drop_head l ha] at h3; exact h3
    · rw [take_drop_nil l (by omega)] at h3; cases h3
theorem nsz_take {l : List UInt8} {n : Nat} (h : nsz l = (n, true)) : nsz (l.take n) = (n, true) := by
  have e3 : (bExp l (bFrac l (bInt l))).2 = true := by show (nsz l).2 = true; rw [h]
  have f3 : (bExp l (bFrac l (bInt l))).1 = n := by show (nsz l).1 = n; rw [h]
  have e2 := bExp_true _ _ e3
  have e1 := bFrac_true _ _ e2
  have l1 := (bInt_le l).1
  have l2 := bFrac_le l _ l1
  have l3 := bExp_le l _ l2.1
  have s1 := bInt_take e1 (n := n) (by omega)
  have s2 := bFrac_take (l := l) (x := bInt l) (n := n) (by omega)
  have s3 := bExp_take e3 (n := n) (by omega)
  unfold nsz
  rw [s1, s2, s3]
  exact h
theorem num_good {l r : List UInt8} {j : J} (h : num l = .ok j r) : ∃ t, j = .mk 4 t [] [] ∧ isNum t = true ∧ t.length ≤ l.length - r.length ∧ r.length < l.length := by
  unfold num at h
  split at h
  · rename_i hn
    injection h with h1 h2
    subst h1 h2
    have hs : nsz l = ((nsz l).1, true) := by rw [← hn]
    have hle := nsz_le l
    have h0 := hle.2 hn
    refine ⟨_, rfl, ?_, ?_, ?_⟩
    · unfold isNum
      rw [nsz_take hs]
      simp only [List.length_take, Bool.true_and, decide_eq_true_eq]
      omega
    · rw [List.length_take, List.length_drop]; omega
    · rw [List.length_drop]; omega
  · cases h
/-- One behind another, each of so much text. -/
def Ok2 {α : Type} (Q : α → Nat → Prop) : List α → Nat → Prop
  | [], _ => True
  | a :: xs, T => ∃ t, 1 ≤ t ∧ t ≤ T ∧ Q a t ∧ Ok2 Q xs (T - t)
theorem Ok2.le {α : Type} {Q : α → Nat → Prop} : ∀ {xs : List α} {T T' : Nat}, Ok2 Q xs T → T ≤ T' → Ok2 Q xs T'
  | [], _, _, _, _ => trivial
  | a :: xs, T, T', ⟨t, h1, h2, h3, h4⟩, h => ⟨t, h1, by omega, h3, Ok2.le h4 (by omega)⟩
theorem Ok2.len {α : Type} {Q : α → Nat → Prop} : ∀ {xs : List α} {T : Nat}, Ok2 Q xs T → xs.length ≤ T
  | [], _, _ => by simp
  | a :: xs, T, ⟨t, h1, h2, h3, h4⟩ => by have := Ok2.len h4; simp only [List.length_cons]; omega
theorem Ok2.all {α : Type} {Q : α → Nat → Prop} : ∀ {xs : List α} {T : Nat}, Ok2 Q xs T → ∀ a ∈ xs, ∃ t, t ≤ T ∧ Q a t
  | [], _, _, a, h => by cases h
  | b :: xs, T, ⟨t, h1, h2, h3, h4⟩, a, h => by
    rcases List.mem_cons.1 h with rfl | h
    · exact ⟨t, h2, h3⟩
    · obtain ⟨t', h5, h6⟩ := Ok2.all h4 a h
      exact ⟨t', by omega, h6⟩
theorem mems_good {α : Type} {e : UInt8} {f : List UInt8 → Rs α} {Q : α → Nat → Prop} (hf : ∀ l a r, f l = .ok a r → r.length < l.length ∧ Q a (l.length - r.length)) :
    ∀ (n : Nat) (b : Bool) (l : List UInt8) (xs : List α) (r : List UInt8), mems e f n b l = .ok xs r → r.length < l.length ∧ Ok2 Q xs (l.length - r.length)
  | 0, _, _, _, _, h => by cases h
  | n + 1, b, l, xs, r, h => by
    by_cases he : l.head? = some e
    · obtain ⟨q, rfl⟩ := head_cons he
      rw [mems_end] at h
      injection h with h1 h2
      subst h1 h2
      exact ⟨by simp, trivial⟩
    · have step : ∀ q : List UInt8, q.length ≤ l.length → (f q).bind (fun a r => (mems e f n false (ws r)).map (a :: ·)) = .ok xs r → r.length < l.length ∧ Ok2 Q xs (l.length - r.length) := fun q hq h => by
        obtain ⟨a, q2, hq2, h⟩ := bind_ok h
        obtain ⟨xs', hk, rfl⟩ := map_ok h
        obtain ⟨h1, h2⟩ := mems_good hf n false _ _ _ hk
        obtain ⟨h3, h4⟩ := hf _ _ _ hq2
        have := ws_len q2
        exact ⟨by omega, _, by omega, by omega, h4, h2.le (by omega)⟩
      cases b with
      | true => rw [mems_fst e f n l he] at h; exact step l (Nat.le_refl _) h
      | false =>
        by_cases hc : l.head? = some 44
        · obtain ⟨q, rfl⟩ := head_cons hc
          rw [mems_comma e f n q he] at h
          exact step (ws q) (by have := ws_len q; simp only [List.length_cons]; omega) h
        · rw [mems_miss e f n l he hc] at h; cases h
/-- A value of so much text is right, and its numbers are numbers. -/
def JQ (d : Nat) (j : J) (t : Nat) : Prop := (∀ n, n + t ≤ 8000 → (rt d j n).1 = true ∧ (rt d j n).2 ≤ n + t) ∧ nums j = true ∧ (t ≤ 8000 → Fit j)
theorem rts_good {d : Nat} : ∀ {ks : List J} {T : Nat}, Ok2 (JQ d) ks T → ∀ n, n + T ≤ 8000 → (rts (rt d) ks n).1 = true ∧ (rts (rt d) ks n).2 ≤ n + T
  | [], _, _, n, _ => ⟨rfl, by rw [rts]; omega⟩
  | j :: r, T, ⟨t, h1, h2, h3, h4⟩, n, hn => by
    obtain ⟨a, b⟩ := h3.1 n (by omega)
    rw [rts, if_pos a]
    obtain ⟨c, e⟩ := rts_good h4 (rt d j n).2 (by omega)
    exact ⟨c, by omega⟩
theorem nums_all {d : Nat} {ks : List J} {T : Nat} (h : Ok2 (JQ d) ks T) : ks.all nums = true := by
  rw [List.all_eq_true]
  intro j hj
  obtain ⟨t, _, h⟩ := h.all j hj
  exact h.2.1
theorem fit_all {d : Nat} {ks : List J} {T : Nat} (h : Ok2 (JQ d) ks T) (hT : T ≤ 8000) : ∀ j ∈ ks, Fit j := fun j hj => by
  obtain ⟨t, ht, h⟩ := h.all j hj
  exact h.2.2 (by omega)
theorem word_good {d : Nat} {k : Int} {t : Nat} (hk : k = 1 ∨ k = 2 ∨ k = 3) (ht : 1 ≤ t) : JQ d (.mk k [] [] []) t := by
  have hr : ∀ f n, n + t ≤ 8000 → rstep f (.mk k [] [] []) n = (true, n + 1) := fun f n hn => by
    unfold rstep
    simp only
    rw [if_neg (by omega), if_pos (by omega)]
    rfl
  refine ⟨fun n hn => ?_, ?_, fun _ => .mk _ _ _ _ (by simp) (by simp) (by simp) (by simp) (by simp)⟩
  · cases d <;> (rw [rt, hr _ n hn]; exact ⟨rfl, by simp only; omega⟩)
  · rw [nums_mk, if_neg (by omega)]; rfl
theorem Ok2.map {α β : Type} {Q : α → Nat → Prop} {R : β → Nat → Prop} (g : α → β) (h : ∀ a t, Q a t → R (g a) t) : ∀ {xs : List α} {T : Nat}, Ok2 Q xs T → Ok2 R (xs.map g) T
  | [], _, _ => trivial
  | _ :: _, _, ⟨t, h1, h2, h3, h4⟩ => ⟨t, h1, h2, h _ _ h3, h4.map g h⟩
def MQ (d : Nat) (x : List UInt8 × J) (t : Nat) : Prop := utf x.1 = true ∧ x.1.length ≤ 4 * t ∧ JQ d x.2 t
theorem JQ.le {d : Nat} {j : J} {t t' : Nat} (h : JQ d j t) (k : t ≤ t') : JQ d j t' := ⟨fun n hn => by obtain ⟨a, b⟩ := h.1 n (by omega); exact ⟨a, by omega⟩, h.2.1, fun h' => h.2.2 (by omega)⟩
theorem mem_good {d : Nat} {f : List UInt8 → Rs J} (hf : ∀ l a r, f l = .ok a r → r.length < l.length ∧ JQ d a (l.length - r.length)) (l : List UInt8) (x : List UInt8 × J) (r : List UInt8) (h : mem f l = .ok x r) : r.length < l.length ∧ MQ d x (l.length - r.length) := by
  unfold mem at h
  obtain ⟨nm, q, hq, h⟩ := bind_ok h
  obtain ⟨_, q2, hq2, h⟩ := bind_ok h
  obtain ⟨j, hk, rfl⟩ := map_ok h
  obtain ⟨a1, a2, a3⟩ := quoted_good hq
  obtain ⟨b1, b2⟩ := hf _ _ _ hk
  have w1 := ws_len q
  have w2 := ws_len q2
  have w3 : q2.length < (ws q).length := by rw [tk_ok hq2]; simp
  exact ⟨by omega, a1, by simp only; omega, b2.le (by omega)⟩
theorem val_good : ∀ (d : Nat) (l : List UInt8) (j : J) (r : List UInt8), val d l = .ok j r → r.length < l.length ∧ JQ d j (l.length - r.length) := by
  have main : ∀ (d : Nat) (f : Option (List UInt8 → Rs J)) (_ : (f = none ∧ d = 0) ∨ ∃ g e, d = e + 1 ∧ f = some g ∧ ∀ l a r, g l = .ok a r → r.length < l.length ∧ JQ e a (l.length - r.length)) (l : List UInt8) (j : J) (r : List UInt8),
      vstep f l = .ok j r → r.length < l.length ∧ JQ d j (l.length - r.length) := by
    intro d f hf l j r h
    have hcon : r.length < l.length := by
      rcases hf with ⟨rfl, _⟩ | ⟨g, e, _, rfl, hg⟩
      · have := val_con 0 l
        rw [val, h] at this; exact this
      · unfold vstep at h
        repeat' split at h
        · obtain ⟨_, h, _⟩ := map_ok h; have := wd_con 110 [117, 108, 108] l; rw [h] at this; exact this
        · obtain ⟨_, h, _⟩ := map_ok h; have := wd_con 102 [97, 108, 115, 101] l; rw [h] at this; exact this
        · obtain ⟨_, h, _⟩ := map_ok h; have := wd_con 116 [114, 117, 101] l; rw [h] at this; exact this
        · obtain ⟨_, h, _⟩ := map_ok h; exact (quoted_good h).2.2
        · rename_i h91; cases h91
        · rename_i hh _ g' hg'
          obtain rfl := Option.some.inj hg'
          obtain ⟨_, h, _⟩ := map_ok h
          have := (mems_good hg _ _ _ _ _ h).1
          have := ws_len l.tail
          have := List.length_tail (l := l)
          omega
        · rename_i h91; cases h91
        · rename_i hh _ g' hg'
          obtain rfl := Option.some.inj hg'
          obtain ⟨_, h, _⟩ := map_ok h
          have := (mems_good (mem_good hg) _ _ _ _ _ h).1
          have := ws_len l.tail
          have := List.length_tail (l := l)
          omega
        · obtain ⟨_, _, _, _, h⟩ := num_good h; exact h
    refine ⟨hcon, ?_⟩
    have hrt : ∀ j n, rt d j n = rstep (match d with | 0 => none | e + 1 => some (rt e)) j n := fun j n => by cases d <;> rfl
    unfold vstep at h
    repeat' split at h
    · obtain ⟨_, _, rfl⟩ := map_ok h; exact word_good (Or.inl rfl) (by omega)
    · obtain ⟨_, _, rfl⟩ := map_ok h; exact word_good (Or.inr (Or.inl rfl)) (by omega)
    · obtain ⟨_, _, rfl⟩ := map_ok h; exact word_good (Or.inr (Or.inr rfl)) (by omega)
    · obtain ⟨t, hk, rfl⟩ := map_ok h
      obtain ⟨h1, h2, _⟩ := quoted_good hk
      refine ⟨fun n hn => ?_, by rw [nums_mk, if_neg (by decide)]; rfl, fun ht => .mk _ _ _ _ (by omega) (by simp) (by simp) (by simp) (by simp)⟩
      rw [hrt]
      unfold rstep
      simp only
      rw [if_neg (by omega), if_neg (by decide), if_neg (by decide), if_pos trivial]
      exact ⟨by simp [h1], by simp only; omega⟩
    · cases h
    · rename_i g
      rcases hf with ⟨hn, _⟩ | ⟨g', e, rfl, hs, hg⟩
      · cases hn
      obtain rfl := Option.some.inj hs
      obtain ⟨ks, h', rfl⟩ := map_ok h
      obtain ⟨_, hk⟩ := mems_good hg _ _ _ _ _ h'
      have hw := ws_len l.tail
      have ht := List.length_tail (l := l)
      have hk2 := hk.le (T' := l.length - r.length - 1) (by omega)
      refine ⟨fun n hn => ?_, by rw [nums_mk, if_neg (by decide)]; exact nums_all hk, fun h8 => .mk _ _ _ _ (by simp) (by simp) (by simp) (by have := hk2.len; omega) (fit_all hk2 (by omega))⟩
      rw [hrt]
      unfold rstep
      simp only
      rw [if_neg (by omega), if_neg (by decide), if_neg (by decide), if_neg (by decide), if_pos trivial, if_pos (show (([] : List UInt8).isEmpty && ([] : List (List UInt8)).isEmpty) = true from rfl)]
      obtain ⟨a, b⟩ := rts_good hk2 (n + 1) (by omega)
      exact ⟨a, by show (rts (rt e) ks (n + 1)).2 ≤ _; omega⟩
    · cases h
    · rename_i g
      rcases hf with ⟨hn, _⟩ | ⟨g', e, rfl, hs, hg⟩
      · cases hn
      obtain rfl := Option.some.inj hs
      obtain ⟨ms, h', rfl⟩ := map_ok h
      obtain ⟨_, hm⟩ := mems_good (mem_good hg) _ _ _ _ _ h'
      have hw := ws_len l.tail
      have ht := List.length_tail (l := l)
      have hm2 := hm.le (T' := l.length - r.length - 1) (by omega)
      have hk2 : Ok2 (JQ e) (ms.map (·.2)) (l.length - r.length - 1) := hm2.map (·.2) fun a t h => h.2.2
      have hlen := hm2.len
      refine ⟨fun n hn => ?_, by rw [nums_mk, if_neg (by decide)]; exact nums_all hk2, fun h8 => .mk _ _ _ _ (by simp) (by simp; omega) ?_ (by simp; omega) (fit_all hk2 (by omega))⟩
      · rw [hrt]
        unfold rstep
        simp only
        rw [if_neg (by omega), if_neg (by decide), if_neg (by decide), if_neg (by decide), if_neg (by decide), if_pos trivial, if_pos]
        · obtain ⟨a, b⟩ := rts_good hk2 (n + 1) (by omega)
          exact ⟨a, by show (rts (rt e) _ (n + 1)).2 ≤ _; omega⟩
        · simp only [nm, List.length_map, List.isEmpty_nil, Bool.true_and, decide_true, List.all_map, List.all_eq_true]
          intro x hx
          obtain ⟨t, _, hq⟩ := hm2.all x hx
          exact hq.1
      · intro x hx
        obtain ⟨y, hy, rfl⟩ := List.mem_map.1 hx
        obtain ⟨t, ht, hq⟩ := hm2.all y hy
        have := hq.2.1
        omega
    · obtain ⟨t, rfl, h1, h2, _⟩ := num_good h
      refine ⟨fun n hn => ?_, by rw [nums_mk, if_pos rfl]; exact h1, fun ht => .mk _ _ _ _ (by omega) (by simp) (by simp) (by simp) (by simp)⟩
      rw [hrt]
      unfold rstep
      simp only
      rw [if_neg (by omega), if_neg (by decide), if_pos trivial]
      exact ⟨rfl, by simp only; omega⟩
  intro d
  induction d with
  | zero => exact fun l j r h => main 0 none (Or.inl ⟨rfl, rfl⟩) l j r h
  | succ d ih => exact fun l j r h => main (d + 1) (some (val d)) (Or.inr ⟨_, d, rfl, rfl, ih⟩) l j r h
theorem parse_right {s : List UInt8} {j : J} (h : parse s = .ok j) : right j = true ∧ nums j = true ∧ Fit j := by
  obtain ⟨hs, r, hv, _⟩ := parse_ok h
  obtain ⟨h1, h2⟩ := val_good 20 _ _ _ hv
  have := ws_len s
  exact ⟨(h2.1 0 (by omega)).1, h2.2.1, h2.2.2 (by omega)⟩
end Js
end Go.Proofs.YthfnlnhehececaaDoor

/- What is written is read as itself. -/
namespace Go.Proofs.YthfnlnhehececaaDoor
namespace Js
theorem hv_hx : ∀ m : Fin 16, hv (hx m.1) = some m.1 := by decide
theorem ec_high {b : UInt8} (h : 128 ≤ b.toNat) : ec b = [b] := by
  have ne : ∀ c : UInt8, c.toNat < 128 → b ≠ c := fun c hc h' => by subst h'; omega
  unfold ec
  rw [if_neg (ne 34 (by decide)), if_neg (ne 92 (by decide)), if_neg (ne 10 (by decide)), if_neg (ne 13 (by decide)), if_neg (ne 9 (by decide)), if_neg (by omega)]
theorem flat_high : ∀ {l : List UInt8}, (∀ b ∈ l, 128 ≤ b.toNat) → l.flatMap ec = l
  | [], _ => rfl
  | b :: l, h => by
    rw [List.flatMap_cons, ec_high (h b List.mem_cons_self), flat_high fun b hb => h b (List.mem_cons_of_mem _ hb)]
    rfl
theorem enc_high {c : Nat} (h : 128 ≤ c) (hs : Sc c) : ∀ b ∈ enc c, 128 ≤ b.toNat := by
  have := hs.1
  unfold enc
  rw [if_neg (by omega)]
  split
  · intro b hb
    simp only [List.mem_cons, List.not_mem_nil, or_false] at hb
    rcases hb with rfl | rfl <;> (rw [u8n _ (by omega)]; omega)
  split
  · intro b hb
    simp only [List.mem_cons, List.not_mem_nil, or_false] at hb
    rcases hb with rfl | rfl | rfl <;> (rw [u8n _ (by omega)]; omega)
  · intro b hb
    simp only [List.mem_cons, List.not_mem_nil, or_false] at hb
    rcases hb with rfl | rfl | rfl | rfl <;> (rw [u8n _ (by omega)]; omega)
theorem enc_head {c : Nat} (h : 128 ≤ c) (hs : Sc c) (X : List UInt8) {x : UInt8} (hx : x.toNat < 128) : (enc c ++ X).head? ≠ some x := by
  have h1 := (enc_len c).1
  obtain ⟨b, l, hl⟩ := List.exists_cons_of_length_pos (l := enc c) (by omega)
  have h2 := enc_high h hs b (by rw [hl]; exact List.mem_cons_self)
  rw [hl]
  intro h'
  obtain rfl := Option.some.inj h'
  omega
/-- A character as it is written is read as itself. -/
theorem chr_ec {c : Nat} (hs : Sc c) (X : List UInt8) : chr ((enc c).flatMap ec ++ X) = .ok c X ∧ ((enc c).flatMap ec ++ X).head? ≠ some 34 := by
  by_cases h : c < 128
  · obtain ⟨a, ha⟩ : ∃ a, a = UInt8.ofNat c := ⟨_, rfl⟩
    have hc : a.toNat = c := by rw [ha, u8n c (by omega)]
    have he : enc c = [a] := by unfold enc; rw [if_pos h, ha]
    rw [he, List.flatMap_cons, List.flatMap_nil, List.append_nil]
    subst hc
    clear ha he
    unfold ec
    by_cases h1 : a = 34
    · subst h1; exact ⟨rfl, by simp⟩
    rw [if_neg h1]
    by_cases h2 : a = 92
    · subst h2; exact ⟨rfl, by simp⟩
    rw [if_neg h2]
    by_cases h3 : a = 10
    · subst h3; exact ⟨rfl, by simp⟩
    rw [if_neg h3]
    by_cases h4 : a = 13
    · subst h4; exact ⟨rfl, by simp⟩
    rw [if_neg h4]
    by_cases h5 : a = 9
    · subst h5; exact ⟨rfl, by simp⟩
    rw [if_neg h5]
    by_cases h6 : a.toNat < 32
    · rw [if_pos h6]
      refine ⟨?_, by simp⟩
      have e1 := hv_hx ⟨a.toNat / 16, by omega⟩
      have e2 := hv_hx ⟨a.toNat % 16, by omega⟩
      simp only at e1 e2
      show chr (92 :: 117 :: 48 :: 48 :: hx (a.toNat / 16) :: hx (a.toNat % 16) :: X) = _
      unfold chr
      rw [if_pos (by simp)]
      unfold esc
      show cod _ (48 :: 48 :: hx (a.toNat / 16) :: hx (a.toNat % 16) :: X) = _
      unfold cod
      have hu : ∀ b, un b 4 0 (48 :: 48 :: hx (a.toNat / 16) :: hx (a.toNat % 16) :: X) = .ok a.toNat X := fun b => by
        rw [un, show hv 48 = some 0 from rfl]
        simp only
        rw [un, show hv 48 = some 0 from rfl]
        simp only
        rw [un, e1]
        simp only
        rw [un, e2]
        simp only
        rw [un]
        congr 1; omega
      rw [hu]
      show (if half a.toNat = true then _ else _) = _
      rw [if_neg]
      rw [half_iff]; omega
    · rw [if_neg h6]
      have n1 : ¬ (a :: X).head? = some 92 := fun h => h2 (Option.some.inj h)
      refine ⟨?_, fun h => h1 (Option.some.inj h)⟩
      show chr (a :: X) = _
      unfold chr
      rw [if_neg n1, u8c_ascii a X h]
      simp only
      rw [if_neg h6]
      rfl
  · rw [flat_high (enc_high (by omega) hs)]
    refine ⟨?_, enc_head (by omega) hs X (by decide)⟩
    unfold chr
    rw [if_neg (enc_head (by omega) hs X (by decide)), u8c_enc hs.1 hs.2]
    simp only
    rw [if_neg (by omega), List.drop_left]
theorem tx_wq : ∀ (N : Nat) (t : List UInt8), t.length ≤ N → utf t = true → ∀ (r : List UInt8) (n : Nat), (t.flatMap ec ++ 34 :: r).length < n → tx n (t.flatMap ec ++ 34 :: r) = .ok t r
  | N, [], _, _, r, n, h => by
    obtain ⟨n, rfl⟩ : ∃ k, n = k + 1 := ⟨n - 1, by omega⟩
    exact tx_end
  | 0, a :: t, hl, _, _, _, _ => by simp at hl
  | N + 1, a :: t, hl, hu, r, n, h => by
    cases hc : u8c (a :: t) with
    | none => rw [utf_none (by simp) hc] at hu; cases hu
    | some x =>
      obtain ⟨c, k⟩ := x
      obtain ⟨e1, e2, e3, _, e5, e6⟩ := enc_u8c hc
      have hs : Sc c := ⟨e5, e6⟩
      have hsplit : (a :: t) = enc c ++ (a :: t).drop k := by rw [e1, List.take_append_drop]
      have hu2 : utf ((a :: t).drop k) = true := by rw [← utf_some hc]; exact hu
      obtain ⟨q, hq⟩ : ∃ q, q = (a :: t).drop k := ⟨_, rfl⟩
      rw [← hq] at hsplit hu2
      have hql : q.length ≤ N := by
        have := congrArg List.length hq
        rw [List.length_drop] at this
        simp only [List.length_cons] at this hl e3
        omega
      obtain ⟨n, rfl⟩ : ∃ k, n = k + 1 := ⟨n - 1, by omega⟩
      rw [hsplit] at h ⊢
      rw [List.flatMap_append, List.append_assoc] at h ⊢
      obtain ⟨h1, h2⟩ := chr_ec hs (q.flatMap ec ++ 34 :: r)
      have hlt := chr_lt h1
      rw [tx_step h2 h1, tx_wq N q hql hu2 r n (by omega)]
      rfl
theorem quoted_wq {t : List UInt8} (h : utf t = true) (r : List UInt8) : quoted (wq t ++ r) = .ok t r := by
  unfold wq quoted
  rw [List.cons_append, tk_hit]
  show tx _ (t.flatMap ec ++ [34] ++ r) = _
  rw [List.append_assoc]
  exact tx_wq _ t (Nat.le_refl _) h r _ (Nat.lt_succ_self _)
/-- What may be of a right value. -/
theorem rstep_cases {f : Option (J → Nat → Bool × Nat)} {k : Int} {t : List UInt8} {ns : List (List UInt8)} {ks : List J} {n : Nat} (h : (rstep f (.mk k t ns ks) n).1 = true) :
    ((k = 1 ∨ k = 2 ∨ k = 3) ∧ t = [] ∧ ns = [] ∧ ks = []) ∨ (k = 4 ∧ ns = [] ∧ ks = []) ∨ (k = 5 ∧ ns = [] ∧ ks = [] ∧ utf t = true) ∨ (k = 6 ∧ t = [] ∧ ns = [] ∧ (rkids f ks (n + 1)).1 = true) ∨
    (k = 7 ∧ t = [] ∧ ns.length = ks.length ∧ ns.all utf = true ∧ (rkids f ks (n + 1)).1 = true) := by
  unfold rstep at h
  simp only at h
  split at h
  · cases h
  split at h
  · rename_i hk
    simp only [Bool.and_eq_true, List.isEmpty_iff] at h
    exact Or.inl ⟨hk, h.1.1, h.1.2, h.2⟩
  split at h
  · rename_i hk
    simp only [Bool.and_eq_true, List.isEmpty_iff] at h
    exact Or.inr (Or.inl ⟨hk, h.1, h.2⟩)
  split at h
  · rename_i hk
    simp only [Bool.and_eq_true, List.isEmpty_iff] at h
    exact Or.inr (Or.inr (Or.inl ⟨hk, h.1.1, h.1.2, h.2⟩))
  split at h
  · rename_i hk
    split at h
    · rename_i he
      simp only [Bool.and_eq_true, List.isEmpty_iff] at he
      exact Or.inr (Or.inr (Or.inr (Or.inl ⟨hk, he.1, he.2, h⟩)))
    · cases h
  split at h
  · rename_i hk
    split at h
    · rename_i he
      simp only [Bool.and_eq_true, List.isEmpty_iff, nm, decide_eq_true_eq] at he
      exact Or.inr (Or.inr (Or.inr (Or.inr ⟨hk, he.1, he.2.1, he.2.2, h⟩)))
    · cases h
  · cases h
theorem num_head {t : List UInt8} (h : isNum t = true) : ∃ c r, t = c :: r ∧ (c = 45 ∨ isDg c = true) := by
  simp only [isNum, Bool.and_eq_true, decide_eq_true_eq] at h
  have h1 := bFrac_true _ _ (bExp_true _ _ h.1)
  cases t with
  | nil => simp [bInt, bDig, dgs] at h1
  | cons c r =>
    refine ⟨c, r, rfl, ?_⟩
    by_cases hc : c = 45
    · exact Or.inl hc
    · right
      unfold bInt at h1
      rw [if_neg (show ¬ (c :: r).head? = some 45 from fun h => hc (Option.some.inj h))] at h1
      simp only [List.drop_zero] at h1
      split at h1
      · rename_i h48
        obtain rfl := Option.some.inj h48
        decide
      · simp only [bDig, List.drop_zero, decide_eq_true_eq, dgs] at h1
        split at h1
        · assumption
        · omega
/-- With what a value's text may begin. -/
def Hd (c : UInt8) : Prop := c = 110 ∨ c = 102 ∨ c = 116 ∨ c = 34 ∨ c = 91 ∨ c = 123 ∨ c = 45 ∨ isDg c = true
theorem Hd.off {c : UInt8} (h : Hd c) : isWs c = false ∧ c ≠ 93 ∧ c ≠ 125 ∧ c ≠ 44 := by
  rcases h with rfl | rfl | rfl | rfl | rfl | rfl | rfl | h
  iterate 7 exact ⟨by decide, by decide, by decide, by decide⟩
  simp only [isDg, Bool.and_eq_true, decide_eq_true_eq] at h
  have ne : ∀ x : UInt8, ¬ (48 ≤ x.toNat ∧ x.toNat ≤ 57) → c ≠ x := fun x hx h' => by subst h'; exact hx h
  refine ⟨?_, ne _ (by decide), ne _ (by decide), ne _ (by decide)⟩
  simp [isWs, ne 32 (by decide), ne 9 (by decide), ne 10 (by decide), ne 13 (by decide)]
theorem wr_head {f : Option (J → Nat → Bool × Nat)} {j : J} {n : Nat} (h : (rstep f j n).1 = true) (hn : nums j = true) : ∃ c r, wr j = c :: r ∧ Hd c := by
  obtain ⟨k, t, ns, ks⟩ := j
  rcases rstep_cases h with ⟨hk, rfl, rfl, rfl⟩ | ⟨rfl, rfl, rfl⟩ | ⟨rfl, rfl, rfl, _⟩ | ⟨rfl, rfl, rfl, _⟩ | ⟨rfl, rfl, _, _, _⟩
  · rcases hk with rfl | rfl | rfl
    · exact ⟨_, _, rfl, Or.inl rfl⟩
    · exact ⟨_, _, rfl, Or.inr (Or.inl rfl)⟩
    · exact ⟨_, _, rfl, Or.inr (Or.inr (Or.inl rfl))⟩
  · rw [nums_mk, if_pos rfl] at hn
    obtain ⟨c, r, rfl, hc⟩ := num_head hn
    refine ⟨c, r, rfl, ?_⟩
    rcases hc with rfl | hc
    · unfold Hd; simp
    · unfold Hd; simp [hc]
  · exact ⟨_, _, rfl, Or.inr (Or.inr (Or.inr (Or.inl rfl)))⟩
  · exact ⟨_, _, rfl, by unfold Hd; simp⟩
  · exact ⟨_, _, rfl, by unfold Hd; simp⟩
theorem cl_cons {c : UInt8} (h : c = 44 ∨ c = 93 ∨ c = 125) (r : List UInt8) : Cl (c :: r) := fun d hd => by
  obtain rfl := Option.some.inj hd
  rcases h with rfl | rfl | rfl <;> decide
theorem isNum_vstep {t : List UInt8} (h : isNum t = true) {r : List UInt8} (hr : Cl r) (f : Option (List UInt8 → Rs J)) : vstep f (t ++ r) = .ok (.mk 4 t [] []) r := by
  obtain ⟨c, q, rfl, hc⟩ := num_head h
  have hh : Hd c := by rcases hc with rfl | hc <;> (unfold Hd; simp [*])
  have ne : ∀ x : UInt8, x ≠ 45 → isDg x = false → ¬ (c :: q ++ r).head? = some x := fun x h1 h2 h' => by
    obtain rfl := Option.some.inj h'
    rcases hc with rfl | hc
    · exact h1 rfl
    · rw [hc] at h2; cases h2
  unfold vstep
  rw [if_neg (ne 110 (by decide) (by decide)), if_neg (ne 102 (by decide) (by decide)), if_neg (ne 116 (by decide) (by decide)), if_neg (ne 34 (by decide) (by decide)), if_neg (ne 91 (by decide) (by decide)), if_neg (ne 123 (by decide) (by decide))]
  simp only [isNum, Bool.and_eq_true, decide_eq_true_eq] at h
  unfold num
  rw [nsz_app hr, if_pos h.1, h.2, List.take_left, List.drop_left]
theorem rest_cl {obj : Bool} {e : UInt8} (he : e = 93 ∨ e = 125) (ns : List (List UInt8)) (ks : List J) (r : List UInt8) : ∃ c q, wrL obj false ns ks ++ e :: r = c :: q ∧ (c = 44 ∨ c = 93 ∨ c = 125) := by
  cases ks with
  | nil => exact ⟨e, r, by rw [wrL_nil]; rfl, Or.inr he⟩
  | cons j ks => exact ⟨44, _, by rw [wrL_cons]; rfl, Or.inl rfl⟩
theorem list_wr {d : Nat} (ih : ∀ j n r, (rt d j n).1 = true → nums j = true → Cl r → val d (wr j ++ r) = .ok j r) (hrt : ∀ j n, ∃ f, rt d j n = rstep f j n) :
    ∀ (ks : List J) (ns : List (List UInt8)) (n : Nat) (b : Bool) (r : List UInt8) (N : Nat), (rts (rt d) ks n).1 = true → ks.all nums = true → (wrL false b ns ks ++ 93 :: r).length < N → mems 93 (val d) N b (wrL false b ns ks ++ 93 :: r) = .ok ks r
  | [], ns, n, b, r, N, _, _, h => by
    obtain ⟨N, rfl⟩ : ∃ k, N = k + 1 := ⟨N - 1, by omega⟩
    rw [wrL_nil]; exact mems_end _ _ _ _ _
  | j :: ks, ns, n, b, r, N, hr, hn, h => by
    obtain ⟨N, rfl⟩ : ∃ k, N = k + 1 := ⟨N - 1, by omega⟩
    rw [rts] at hr
    have hj : (rt d j n).1 = true := by
      by_cases hj : (rt d j n).1 = true
      · exact hj
      · rw [if_neg hj] at hr; cases hr
    rw [if_pos hj] at hr
    rw [List.all_cons, Bool.and_eq_true] at hn
    obtain ⟨f, hf⟩ := hrt j n
    obtain ⟨c, q, hw, hc⟩ := wr_head (f := f) (n := n) (by rw [← hf]; exact hj) hn.1
    obtain ⟨c1, c2, c3, c4⟩ := hc.off
    obtain ⟨x, y, hx, hx2⟩ := rest_cl (obj := false) (e := 93) (Or.inl rfl) ns.tail ks r
    have step : ∀ M, (wrL false false ns.tail ks ++ 93 :: r).length < M → ((val d (wr j ++ (wrL false false ns.tail ks ++ 93 :: r))).bind fun a r => (mems 93 (val d) M false (ws r)).map (a :: ·)) = .ok (j :: ks) r := fun M hM => by
      rw [ih j n _ hj hn.1 (by rw [hx]; exact cl_cons hx2 y)]
      show Rs.map _ (mems 93 (val d) M false (ws (wrL false false ns.tail ks ++ 93 :: r))) = _
      have hws : ws (wrL false false ns.tail ks ++ 93 :: r) = wrL false false ns.tail ks ++ 93 :: r := by
        rw [hx]; rcases hx2 with rfl | rfl | rfl <;> exact ws_off (by decide) _
      rw [hws, list_wr ih hrt ks ns.tail _ false r M hr hn.2 hM]
      rfl
    rw [wrL_cons] at h ⊢
    cases b with
    | true =>
      simp only [if_true, Bool.false_eq_true, if_false, List.nil_append, List.append_assoc] at h ⊢
      rw [mems_fst 93 (val d) N _ (by rw [hw]; intro h; exact c2 (Option.some.inj h))]
      exact step N (by rw [List.length_append, hw] at h; simp only [List.length_cons] at h; omega)
    | false =>
      simp only [Bool.false_eq_true, if_false, List.nil_append, List.append_assoc, List.cons_append] at h ⊢
      rw [mems_comma 93 (val d) N _ (by simp), show ws (wr j ++ (wrL false false ns.tail ks ++ 93 :: r)) = wr j ++ (wrL false false ns.tail ks ++ 93 :: r) by rw [hw]; exact ws_off c1 _]
      exact step N (by simp only [List.length_append, List.length_cons] at h ⊢; omega)
theorem obj_wr {d : Nat} (ih : ∀ j n r, (rt d j n).1 = true → nums j = true → Cl r → val d (wr j ++ r) = .ok j r) (hrt : ∀ j n, ∃ f, rt d j n = rstep f j n) :
    ∀ (ks : List J) (ns : List (List UInt8)) (n : Nat) (b : Bool) (r : List UInt8) (N : Nat), ns.length = ks.length → ns.all utf = true → (rts (rt d) ks n).1 = true → ks.all nums = true → (wrL true b ns ks ++ 125 :: r).length < N →
      ∃ ms, mems 125 (mem (val d)) N b (wrL true b ns ks ++ 125 :: r) = .ok ms r ∧ ms.map (·.1) = ns ∧ ms.map (·.2) = ks
  | [], ns, n, b, r, N, hl, _, _, _, h => by
    obtain ⟨N, rfl⟩ : ∃ k, N = k + 1 := ⟨N - 1, by omega⟩
    obtain rfl := List.eq_nil_of_length_eq_zero hl
    rw [wrL_nil]; exact ⟨[], mems_end _ _ _ _ _, rfl, rfl⟩
  | j :: ks, [], n, b, r, N, hl, _, _, _, h => by simp at hl
  | j :: ks, x :: ns, n, b, r, N, hl, hu, hr, hn, h => by
    obtain ⟨N, rfl⟩ : ∃ k, N = k + 1 := ⟨N - 1, by omega⟩
    rw [rts] at hr
    have hj : (rt d j n).1 = true := by
      by_cases hj : (rt d j n).1 = true
      · exact hj
      · rw [if_neg hj] at hr; cases hr
    rw [if_pos hj] at hr
    rw [List.all_cons, Bool.and_eq_true] at hn hu
    obtain ⟨f, hf⟩ := hrt j n
    obtain ⟨c, q, hw, hc⟩ := wr_head (f := f) (n := n) (by rw [← hf]; exact hj) hn.1
    obtain ⟨c1, c2, c3, c4⟩ := hc.off
    obtain ⟨y, z, hy, hy2⟩ := rest_cl (obj := true) (e := 125) (Or.inr rfl) ns ks r
    have step : ∀ M, (wrL true false ns ks ++ 125 :: r).length < M → ∃ ms, ((mem (val d) (wq x ++ (58 :: (wr j ++ (wrL true false ns ks ++ 125 :: r))))).bind fun a r => (mems 125 (mem (val d)) M false (ws r)).map (a :: ·)) = .ok ms r ∧ ms.map (·.1) = x :: ns ∧ ms.map (·.2) = j :: ks := fun M hM => by
      obtain ⟨ms, h1, h2, h3⟩ := obj_wr ih hrt ks ns _ false r M (by simpa using hl) hu.2 hr hn.2 hM
      refine ⟨(x, j) :: ms, ?_, by rw [List.map_cons, h2], by rw [List.map_cons, h3]⟩
      have hm : mem (val d) (wq x ++ (58 :: (wr j ++ (wrL true false ns ks ++ 125 :: r)))) = .ok (x, j) (wrL true false ns ks ++ 125 :: r) := by
        unfold mem
        rw [quoted_wq hu.1]
        show (tk 58 (ws (58 :: (wr j ++ (wrL true false ns ks ++ 125 :: r))))).bind (fun _ r2 => (val d (ws r2)).map fun j => (x, j)) = _
        rw [ws_off (by decide), tk_hit]
        show Rs.map _ (val d (ws (wr j ++ (wrL true false ns ks ++ 125 :: r)))) = _
        rw [show ws (wr j ++ (wrL true false ns ks ++ 125 :: r)) = wr j ++ (wrL true false ns ks ++ 125 :: r) by rw [hw]; exact ws_off c1 _,
          ih j n _ hj hn.1 (by rw [hy]; exact cl_cons hy2 z)]
        rfl
      rw [hm]
      show Rs.map _ (mems 125 (mem (val d)) M false (ws (wrL true false ns ks ++ 125 :: r))) = _
      have hws : ws (wrL true false ns ks ++ 125 :: r) = wrL true false ns ks ++ 125 :: r := by
        rw [hy]; rcases hy2 with rfl | rfl | rfl <;> exact ws_off (by decide) _
      rw [hws, h1]
      rfl
    rw [wrL_cons] at h ⊢
    have hwq : ∃ w, wq x = 34 :: w := ⟨_, rfl⟩
    obtain ⟨wx, hwx⟩ := hwq
    cases b with
    | true =>
      simp only [if_true, List.nil_append, List.append_assoc, List.headD_cons, List.tail_cons, List.cons_append] at h ⊢
      rw [mems_fst 125 (mem (val d)) N _ (by rw [hwx]; simp)]
      exact step N (by simp only [List.length_append, List.length_cons] at h ⊢; omega)
    | false =>
      simp only [Bool.false_eq_true, if_false, if_true, List.nil_append, List.append_assoc, List.headD_cons, List.tail_cons, List.cons_append] at h ⊢
      rw [mems_comma 125 (mem (val d)) N _ (by simp), show ∀ Z, ws (wq x ++ Z) = wq x ++ Z from fun Z => by rw [hwx]; exact ws_off (by decide) _]
      exact step N (by simp only [List.length_append, List.length_cons] at h ⊢; omega)
theorem val_wr : ∀ (d : Nat) (j : J) (n : Nat) (r : List UInt8), (rt d j n).1 = true → nums j = true → Cl r → val d (wr j ++ r) = .ok j r := by
  have main : ∀ (d : Nat) (f : Option (J → Nat → Bool × Nat)) (g : Option (List UInt8 → Rs J)) (_ : (f = none ∧ g = none) ∨ ∃ e, f = some (rt e) ∧ g = some (val e) ∧ ∀ j n r, (rt e j n).1 = true → nums j = true → Cl r → val e (wr j ++ r) = .ok j r)
      (j : J) (n : Nat) (r : List UInt8), (rstep f j n).1 = true → nums j = true → Cl r → vstep g (wr j ++ r) = .ok j r := by
    intro d f g hfg j n r h hn hr
    obtain ⟨k, t, ns, ks⟩ := j
    rcases rstep_cases h with ⟨hk, rfl, rfl, rfl⟩ | ⟨rfl, rfl, rfl⟩ | ⟨rfl, rfl, rfl, hu⟩ | ⟨rfl, rfl, rfl, hs⟩ | ⟨rfl, rfl, hl, hu, hs⟩
    · rcases hk with rfl | rfl | rfl <;> rfl
    · rw [nums_mk, if_pos rfl] at hn
      exact isNum_vstep hn hr g
    · show vstep g (wq t ++ r) = _
      have hq := quoted_wq hu r
      obtain ⟨wx, hwx⟩ : ∃ w, wq t = 34 :: w := ⟨_, rfl⟩
      rw [hwx] at hq ⊢
      have : vstep g (34 :: wx ++ r) = (quoted (34 :: wx ++ r)).map fun t => .mk 5 t [] [] := rfl
      rw [this, hq]; rfl
    · rcases hfg with ⟨rfl, rfl⟩ | ⟨e, rfl, rfl, ih⟩
      · cases hs
      have hrt : ∀ j n, ∃ f, rt e j n = rstep f j n := fun j n => by cases e with | zero => exact ⟨none, rfl⟩ | succ e => exact ⟨some (rt e), rfl⟩
      show vstep (some (val e)) (91 :: (wrL false true [] ks ++ [93]) ++ r) = _
      rw [List.cons_append, vstep_list, List.append_assoc]
      show Rs.map _ (mems 93 (val e) _ true (ws (wrL false true [] ks ++ 93 :: r))) = _
      rw [nums_mk, if_neg (by decide)] at hn
      have hws : ws (wrL false true [] ks ++ 93 :: r) = wrL false true [] ks ++ 93 :: r := by
        cases ks with
        | nil => rw [wrL_nil]; exact ws_off (by decide) _
        | cons j ks =>
          have hs' : (rts (rt e) (j :: ks) (n + 1)).1 = true := hs
          rw [rts] at hs'
          have hj : (rt e j (n + 1)).1 = true := by
            by_cases hj : (rt e j (n + 1)).1 = true
            · exact hj
            · rw [if_neg hj] at hs'; cases hs'
          obtain ⟨f, hf⟩ := hrt j (n + 1)
          rw [hf] at hj
          obtain ⟨c, q, hw, hc⟩ := wr_head hj (by rw [List.all_cons, Bool.and_eq_true] at hn; exact hn.1)
          rw [wrL_cons, hw]
          exact ws_off hc.off.1 _
      rw [hws, list_wr ih hrt ks [] (n + 1) true r _ hs hn (by simp only [List.length_cons, List.length_append, List.length_nil]; omega)]
      rfl
    · rcases hfg with ⟨rfl, rfl⟩ | ⟨e, rfl, rfl, ih⟩
      · cases hs
      have hrt : ∀ j n, ∃ f, rt e j n = rstep f j n := fun j n => by cases e with | zero => exact ⟨none, rfl⟩ | succ e => exact ⟨some (rt e), rfl⟩
      show vstep (some (val e)) (123 :: (wrL true true ns ks ++ [125]) ++ r) = _
      rw [List.cons_append, vstep_object, List.append_assoc]
      show Rs.map _ (mems 125 (mem (val e)) _ true (ws (wrL true true ns ks ++ 125 :: r))) = _
      rw [nums_mk, if_neg (by decide)] at hn
      have hws : ws (wrL true true ns ks ++ 125 :: r) = wrL true true ns ks ++ 125 :: r := by
        cases ks with
        | nil => rw [wrL_nil]; exact ws_off (by decide) _
        | cons j ks => rw [wrL_cons]; exact ws_off (by decide) _
      obtain ⟨ms, h1, h2, h3⟩ := obj_wr ih hrt ks ns (n + 1) true r (((91 : UInt8) :: (wrL true true ns ks ++ ([125] ++ r))).length + 1) hl hu hs hn (by simp only [List.length_cons, List.length_append, List.length_nil]; omega)
      rw [hws]
      have hN : (123 :: (wrL true true ns ks ++ ([125] ++ r))).length + 1 = ((91 : UInt8) :: (wrL true true ns ks ++ ([125] ++ r))).length + 1 := rfl
      rw [hN, h1]
      show Rs.ok (J.mk 7 [] (ms.map (·.1)) (ms.map (·.2))) r = _
      rw [h2, h3]
  intro d
  induction d with
  | zero => exact fun j n r => main 0 none none (Or.inl ⟨rfl, rfl⟩) j n r
  | succ d ih => exact fun j n r => main (d + 1) (some (rt d)) (some (val d)) (Or.inr ⟨d, rfl, rfl, ih⟩) j n r
theorem parse_wr {j : J} (hr : right j = true) (hn : nums j = true) (hl : (wr j).length ≤ 8000) : parse (wr j) = .ok j := by
  have hv := val_wr 20 j 0 [] hr hn (fun c hc => by cases hc)
  rw [List.append_nil] at hv
  have hr' : (rstep (some (rt 19)) j 0).1 = true := hr
  obtain ⟨c, q, hw, hc⟩ := wr_head hr' hn
  refine parse_of hl (r := []) ?_ rfl
  rw [show ws (wr j) = wr j by rw [hw]; exact ws_off hc.off.1 _]
  exact hv
end Js
end Go.Proofs.YthfnlnhehececaaDoor

/- The chapter's examples. -/
namespace Go.Proofs.YthfnlnhehececaaDoor
namespace Js
def exJ : J := .mk 7 [] [[97]] [.mk 6 [] [] [.mk 4 [49] [] [], .mk 5 [120] [] [], .mk 1 [] [] []]]
theorem ex_parse : parse [123, 34, 97, 34, 58, 32, 91, 49, 44, 32, 34, 120, 34, 44, 32, 110, 117, 108, 108, 93, 125] = .ok exJ := by rfl
theorem ex_bad : parse [91, 49, 44, 93] = .bad 54 3 := by rfl
theorem ex_right : right exJ = true := (parse_right ex_parse).1
theorem ex_nums : nums exJ = true := (parse_right ex_parse).2.1
theorem ex_fit : Fit exJ := (parse_right ex_parse).2.2
theorem ex_wr : wr exJ = [123, 34, 97, 34, 58, 91, 49, 44, 34, 120, 34, 44, 110, 117, 108, 108, 93, 125] := by rfl
theorem ex_write : write exJ = .ok [123, 34, 97, 34, 58, 91, 49, 44, 34, 120, 34, 44, 110, 117, 108, 108, 93, 125] := by
  unfold write; rw [if_pos ⟨ex_right, ex_nums⟩, ex_wr]; rfl
theorem ex_find : find exJ [97] = some (.mk 6 [] [] [.mk 4 [49] [] [], .mk 5 [120] [] [], .mk 1 [] [] []]) := by
  unfold find exJ; simp only []; rw [if_pos ⟨trivial, ex_right⟩]; rfl
end Js
end Go.Proofs.YthfnlnhehececaaDoor

/- What the laws ask of what came: what is wrong and where; the chapter's examples. -/
namespace Go.Proofs.YthfnlnhehececaaDoor
open Go Go.RowKit

/-- A variable that holds a value. -/
def Var (w : World) (b : Nat) (v : Value) : Prop := w.heap[b]? = some (.cells (partsV v).toArray 25 (0, 0))
theorem Four.agg {v : Value} (h : Four v) : Value.agg (partsV v).toArray = v := by obtain ⟨k, t, nv, kv, rfl, _⟩ := h; rfl
theorem Four.ones {v : Value} (h : Four v) : ∀ x ∈ partsV v, x.oneCell' = true := by
  obtain ⟨k, t, nv, kv, rfl, h1, h2⟩ := h
  intro x hx
  simp only [partsV, List.mem_cons, List.not_mem_nil, or_false] at hx
  rcases hx with rfl | rfl | rfl | rfl
  · rfl
  · rfl
  · exact h1
  · exact h2
theorem four_no : Four (.agg noRow.toArray) := ⟨0, ⟨#[]⟩, .slice none 0 0, .slice none 0 0, rfl, rfl, rfl⟩
theorem Var.below {w w' : World} {b : Nat} {v : Value} (h : Var w b v) (hb : Below w.heap.size w w') : Var w' b v := (hb.block b (lt_of_heap h)).trans h
/-- A new variable with its value, in a world that is a letter. -/
theorem wpList_var {w : World} {ops : Array Oper} {rest : List Oper} {o1 o2 : Oper} {a : Act} {Q : Exit → Act → World → Prop} (h1 : o1.guard = none) (h2 : o2.guard = none) (ho1 : o1.op = .alloc 25) (x y : Operand) (ho2 : o2.op = .store 25 x y) (v : Value) (hv : Four v)
    (hx : (a.put o1.dst (.pointer (some ⟨w.heap.size, 0, none⟩))).eval x = .pointer (some ⟨w.heap.size, 0, none⟩)) (hy : (a.put o1.dst (.pointer (some ⟨w.heap.size, 0, none⟩))).eval y = v) (hd : o2.dst = none)
    (h : ∀ w', Hid (Var w' w.heap.size v) → Hid (Below w.heap.size w w') → Hid (w'.heap.size = w.heap.size + 1) → wpList Tryd.prog ops Q rest (a.put o1.dst (.pointer (some ⟨w.heap.size, 0, none⟩))) w') : wpList Tryd.prog ops Q (o1 :: o2 :: rest) a w := by
  refine wpList_alloc_v h1 25 ho1 _ allocJson fun w1 hg1 hb1 hs1 => ?_
  refine wpList_store_whole h2 25 x y ho2 w.heap.size (partsV v) noRow 25 hx (hy.trans hv.agg.symm) hg1.out (by rw [hv.len]; rfl) (by rw [hv.len]; kernel_rfl) hv.ones fun w2 hg2 hk2 hs2 => ?_
  rw [hd]
  exact h w2 hg2 (Lib.hid (below_kept hb1.out hk2.out (Nat.le_refl _) (by have := hs1.out; omega))) (Lib.hid (hs2.out.trans hs1.out))
theorem wpList_load_var {w : World} {ops : Array Oper} {rest : List Oper} {op : Oper} {a : Act} {Q : Exit → Act → World → Prop} (hgd : op.guard = none) (x : Operand) (ho : op.op = .load 25 x) (b : Nat) (v : Value) (hx : a.eval x = .pointer (some ⟨b, 0, none⟩)) (hv : Four v) (hb : Hid (Var w b v))
    (h : wpList Tryd.prog ops Q rest (a.put op.dst v) w) : wpList Tryd.prog ops Q (op :: rest) a w := by
  refine wpList_load_mid hgd 25 x ho b 0 hx (partsV v) _ (range_of_list hb.out) Tryd.underlying25 rfl (by rw [hv.len]; kernel_rfl) ?_
  rw [hv.agg]
  exact h
theorem eq_nil (w : World) : (binOp .eql 31 .nilIface .nilIface).run Tryd.prog w = .ok (.bool true) w := by kernel_rfl
theorem ne_nil (w : World) : (binOp .neq 31 .nilIface .nilIface).run Tryd.prog w = .ok (.bool false) w := by kernel_rfl
theorem eq_fault (g : Nat) (w : World) : (binOp .eql 31 (faultV g) .nilIface).run Tryd.prog w = .ok (.bool false) w := by unfold faultV; kernel_rfl
theorem gd_fault (g : Nat) (x y : Operand) (w : World) : (eqGuard .eql 31 x y (faultV g) .nilIface).run Tryd.prog w = .ok () w := by unfold faultV; rfl
theorem as_fault (g : Nat) (w : World) : (Instr.typeAssert (faultV g) 31 54 true).run Tryd.prog w = .ok (.tuple #[.pointer (some ⟨g, 0, none⟩), .bool true]) w := by unfold faultV; kernel_rfl
theorem results_tmp3 {fn : Func} {t u v : Tmp} (h : fn.results = #[.tmp t, .tmp u, .tmp v]) (tmps : Array Value) (P : Program) (w : World) :
    (results fn tmps).run P w = .ok (.tuple #[tmps.getD t undef, tmps.getD u undef, tmps.getD v undef]) w := by
  simp [results, h]
set_option maxRecDepth 100000 in
set_option maxHeartbeats 4000000 in
theorem told_nil (w : World) : Calls Tryd.prog 12 #[.nilIface] w fun e w' => e = .returned (.tuple #[.int .i64 0, .int .i64 0, .bool true]) ∧ Below w.heap.size w w' := by
  have hq := eq_nil
  go_enter Tryd.func12, Tryd.ntmps12
  go_wp2_with fail
  exact bodyPost_ret (results_tmp3 rfl _ _ _) rfl ⟨rfl, Below.refl _ _⟩
set_option maxRecDepth 100000 in
set_option maxHeartbeats 4000000 in
theorem told_fault (g : Nat) (c p : Nat) (hc : c ≠ 0) (w : World) (h : FaultAt g c p w) : Calls Tryd.prog 12 #[faultV g] w fun e w' => e = .returned (.tuple #[.int .i64 c, .int .i64 p, .bool true]) ∧ Below w.heap.size w w' := by
  have c0 : w.cell? ⟨g, 0, none⟩ = some (.int .i64 c) := by rw [cell_of_list h]; rfl
  have c1 : w.cell? ⟨g, 1, none⟩ = some (.int .i64 p) := by rw [cell_of_list h]; rfl
  have c2 : w.cell? ⟨g, 2, none⟩ = some .nilIface := by rw [cell_of_list h]; rfl
  have hq := fun w => eq_fault g w
  have hq2 := fun x y w => gd_fault g x y w
  have hq3 := fun w => as_fault g w
  have hq4 := ne_nil
  have hc0 : ((c : Int) == 0) = false := by simp only [beq_eq_false_iff_ne]; omega
  generalize faultV g = f at *
  clear h
  go_enter Tryd.func12, Tryd.ntmps12
  go_wp2_with fail
  go_quiet (fail)
  go_wp2_with fail
  exact bodyPost_ret (results_tmp3 rfl _ _ _) rfl ⟨rfl, below_drewN (Below.refl _ _) _⟩
/-- A value that can be read in a world. -/
def AtW (w : World) (j : Js.J) (v : Value) : Prop := At w (· < w.heap.size) j v
theorem AtW.below {w w' : World} {j : Js.J} {v : Value} (h : AtW w j v) (hb : Below w.heap.size w w') : AtW w' j v :=
  At.frame h (fun _ hg => Nat.lt_of_lt_of_le hg hb.size) hb.size (fun g hg _ => hb.block g hg)
theorem Made.atW {w w' : World} {j : Js.J} {v : Value} (h : Made w j v w') : AtW w' j v := Own.at_ h fun _ _ hg => hg
theorem same_w (j j2 : Js.J) (v v2 : Value) (w : World) (hf : Js.Fit j) (hf2 : Js.Fit j2) (h : AtW w j v) (h2 : AtW w j2 v2) (hT : Tb w) :
    Calls Tryd.prog 11 #[v, v2] w fun e w' => (∃ r, e = .returned (.bool r) ∧ (r = true ↔ Js.right j = true ∧ Js.right j2 = true ∧ j = j2)) ∧ Below w.heap.size w w' := same_any j j2 v v2 w.heap.size w hf hf2 h h2 (Nat.le_refl _) hT
/-- A right value is the same as itself. -/
theorem same_self (j : Js.J) (v v2 : Value) (w : World) (hr : Js.right j = true) (hf : Js.Fit j) (h : AtW w j v) (h2 : AtW w j v2) (hT : Tb w) :
    Calls Tryd.prog 11 #[v, v2] w fun e w' => e = .returned (.bool true) ∧ Below w.heap.size w w' :=
  (same_w j j v v2 w hf hf h h2 hT).mono fun e w' ⟨⟨r, h1, h2⟩, h3⟩ => ⟨by rw [h1, h2.2 ⟨hr, hr, rfl⟩], h3⟩
theorem write_w (j : Js.J) (v : Value) (w : World) (hf : Js.Fit j) (h : AtW w j v) (hT : Tb w) : Calls Tryd.prog 9 #[v] w (OutR w (Js.write j)) := write_any j v w.heap.size w hf h (Nat.le_refl _) hT
theorem find_w (j : Js.J) (v : Value) (x : List UInt8) (w : World) (hf : Js.Fit j) (h : AtW w j v) (hT : Tb w) : Calls Tryd.prog 13 #[v, .string (bs x)] w (OutF w (Js.find j x)) := find_any j v x w.heap.size w hf h (Nat.le_refl _) hT
theorem parse_ok_w {S : List UInt8} {j : Js.J} (h : Js.parse S = .ok j) (w : World) (hT : Tb w) : Calls Tryd.prog 10 #[.string (bs S)] w fun e w' => ∃ x, e = .returned (.tuple #[x, .nilIface]) ∧ Four x ∧ AtW w' j x ∧ Below w.heap.size w w' := by
  have := parse_any S w hT
  rw [h] at this
  exact this.mono fun e w' ⟨x, h1, h2, h3⟩ => ⟨x, h1, h2.four, h2.atW, h3⟩
theorem parse_bad_w {S : List UInt8} {c p : Nat} (h : Js.parse S = .bad c p) (w : World) (hT : Tb w) : Calls Tryd.prog 10 #[.string (bs S)] w fun e w' => ∃ g, e = .returned (.tuple #[.agg noRow.toArray, faultV g]) ∧ FaultAt g c p w' ∧ Below w.heap.size w w' := by
  have := parse_any S w hT
  rw [h] at this
  exact this.mono fun e w' ⟨g, _, h1, h2, h3⟩ => ⟨g, h1, h2, h3⟩
theorem write_ok_w {j : Js.J} {X : List UInt8} (h : Js.write j = .ok X) (hf : Js.Fit j) (v : Value) (w : World) (ha : AtW w j v) (hT : Tb w) : Calls Tryd.prog 9 #[v] w fun e w' => e = .returned (.tuple #[.string (bs X), .int .i64 0]) ∧ Below w.heap.size w w' := by
  have := write_w j v w hf ha hT
  rw [h] at this
  exact this
theorem write_bad_w {j : Js.J} {c : Nat} (h : Js.write j = .bad c) (hf : Js.Fit j) (v : Value) (w : World) (ha : AtW w j v) (hT : Tb w) : Calls Tryd.prog 9 #[v] w fun e w' => e = .returned (.tuple #[.string (bs []), .int .i64 c]) ∧ Below w.heap.size w w' := by
  have := write_w j v w hf ha hT
  rw [h] at this
  exact this
theorem find_some_w {j i : Js.J} {x : List UInt8} (h : Js.find j x = some i) (hf : Js.Fit j) (v : Value) (w : World) (ha : AtW w j v) (hT : Tb w) : Calls Tryd.prog 13 #[v, .string (bs x)] w fun e w' => ∃ z, e = .returned (.tuple #[z, .bool true]) ∧ Four z ∧ AtW w' i z ∧ Below w.heap.size w w' := by
  have := find_w j v x w hf ha hT
  rw [h] at this
  exact this.mono fun e w' ⟨z, h1, h2, h3⟩ => ⟨z, h1, h2.four, h2.atW, h3⟩
theorem AtW.parts {w : World} {k : Int} {t : List UInt8} {ns : List (List UInt8)} {ks : List Js.J} {v : Value} (h : AtW w (.mk k t ns ks) v) : ∃ nv kv, v = jv k t nv kv := by
  obtain ⟨nv, kv, _, h, _⟩ := At.jv_ h
  exact ⟨nv, kv, h⟩
end Go.Proofs.YthfnlnhehececaaDoor

/- The chapter's examples, asked ahead of each law. -/
namespace Go.Proofs.YthfnlnhehececaaDoor
open Go Go.RowKit

/-- What the example's value reads as. -/
theorem ex_cells {w : World} {F : Nat → Prop} {v : Value} (h : At w F Js.exJ v) (_ : Four v) : ∃ nv g o c kk tt nn a1 c1, v = jv 7 [] nv (.slice (some ⟨g, o, none⟩) 1 c) ∧ nv.oneCell' = true ∧ F g ∧ g < w.heap.size ∧
    w.cell? ⟨g, o, none⟩ = some kk ∧ w.cell? ⟨g, o + 1, none⟩ = some tt ∧ w.cell? ⟨g, o + 2, none⟩ = some nn ∧ w.cell? ⟨g, o + 3, none⟩ = some (.slice a1 3 c1) := by
  obtain ⟨nv, kv, vs, rfl, h1, _, _, hk, hl, hs⟩ := h.jv_
  rcases hk with ⟨rfl, _⟩ | ⟨g, o, c, rfl, _, hF, hg, hc⟩
  · simp at hl
  · have hl1 : vs.length = 1 := hl
    rw [hl1]
    obtain ⟨v1, hv1⟩ : ∃ v1, vs[0]? = some v1 := ⟨vs[0], List.getElem?_eq_getElem (by omega)⟩
    have hat := hs 0 _ v1 rfl hv1
    obtain ⟨nv1, kv1, vs1, rfl, _, _, _, hk1, hl2, _⟩ := hat.jv_
    obtain ⟨a1, c1, rfl, _⟩ := hk1.sl
    obtain ⟨x0, x1, x2, x3, he, e0, e1, e2, e3⟩ := hc 0 _ hv1
    unfold jv at he
    simp only [Value.agg.injEq, Array.mk.injEq, List.cons.injEq, and_true] at he
    obtain ⟨rfl, rfl, rfl, rfl⟩ := he
    have hl3 : vs1.length = 3 := hl2
    rw [hl3] at e3
    exact ⟨nv, g, o, c, _, _, _, a1, c1, rfl, h1, hF, hg, e0, e1, e2, e3⟩
theorem ex_var {w w' : World} {b : Nat} {v : Value} (h : Hid (Var w b v)) (hb : Below w.heap.size w w') : Hid (Var w' b v) := Lib.hid (h.out.below hb)
theorem var_cells {w : World} {b : Nat} {k : Int} {t : List UInt8} {nv kv : Value} (h : Hid (Var w b (jv k t nv kv))) : w.cell? ⟨b, 0, none⟩ = some (.int .i64 k) ∧ w.cell? ⟨b, 1, none⟩ = some (.string (bs t)) ∧ w.cell? ⟨b, 2, none⟩ = some nv ∧ w.cell? ⟨b, 3, none⟩ = some kv := by
  have h' : w.heap[b]? = some (.cells [Value.int .i64 k, .string (bs t), nv, kv].toArray 25 (0, 0)) := h.out
  exact box_cells (Lib.hid h')
theorem bs_lit (l : List UInt8) (s : ByteArray) (h : s = ⟨l.toArray⟩) : bs l = s := by rw [← bs_eq, h]
set_option maxRecDepth 100000 in
set_option maxHeartbeats 8000000 in
theorem examples_true (w : World) (hT : Tb w) : Calls Tryd.prog 8 #[] w fun e w' => e = .returned (.bool true) ∧ Below w.heap.size w w' := by
  have T0 := Lib.hid hT
  have P1 := Lib.hid (fun v hv => parse_ok_w Js.ex_parse v hv)
  rw [← bs_eq] at P1
  have P2 := Lib.hid (fun v hv => parse_bad_w Js.ex_bad v hv)
  rw [← bs_eq] at P2
  have W1 := Lib.hid (fun x v (ha : AtW v Js.exJ x) hv => write_ok_w Js.ex_write Js.ex_fit x v ha hv)
  have F1 := Lib.hid (fun x v (ha : AtW v Js.exJ x) hv => find_some_w Js.ex_find Js.ex_fit x v ha hv)
  rw [← bs_eq [97]] at F1
  have S1 := Lib.hid (fun x v (ha : AtW v Js.exJ x) hv => same_self Js.exJ x x v Js.ex_right Js.ex_fit ha ha hv)
  have N1 := Lib.hid (fun g v h => told_fault g 54 3 (by decide) v h)
  have FN := four_no
  have hq := eq_nil
  have es1 : ((bs [123, 34, 97, 34, 58, 91, 49, 44, 34, 120, 34, 44, 110, 117, 108, 108, 93, 125]).toList == [123, 34, 97, 34, 58, 91, 49, 44, 34, 120, 34, 44, 110, 117, 108, 108, 93, 125]) = true := bs_is _
  have es2 : ((bs [123, 34, 97, 34, 58, 91, 49, 44, 34, 120, 34, 44, 110, 117, 108, 108, 93, 125]).toList == (⟨#[123, 34, 97, 34, 58, 91, 49, 44, 34, 120, 34, 44, 110, 117, 108, 108, 93, 125]⟩ : ByteArray).toList) = true := by rw [ByteArray.toList_eq, ByteArray.toList_eq, bs_list]; rfl
  generalize bs [123, 34, 97, 34, 58, 91, 49, 44, 34, 120, 34, 44, 110, 117, 108, 108, 93, 125] = xw at *
  have ES1 := Lib.hid es1
  have ES2 := Lib.hid es2
  have B := Lib.hid (Below.refl w.heap.size w)
  have T := T0
  clear hT T0 es1 es2
  go_enter Tryd.func8, Tryd.ntmps8
  go_upto_region 6 with (first | (go_at_call 10; first | ((refine (P1.out _ T.out).mono ?_); rintro e w1 ⟨v, rfl, FV, hm, hb⟩; have A := Lib.hid hm; replace B := Lib.hid (bthen B.out hb); replace T := Lib.hid (T.out.below hb); clear hm hb P1; go_frame) | ((refine (P2.out _ T.out).mono ?_); rintro e w3 ⟨g, rfl, hf, hb⟩; replace V := ex_var V hb; replace A := Lib.hid (A.out.below hb); replace B := Lib.hid (bthen B.out hb); replace T := Lib.hid (T.out.below hb); have HF := Lib.hid hf; clear hf hb P2; go_frame)) | (refine wpList_var rfl rfl rfl _ _ rfl v FV rfl rfl rfl ?_; intro w2 V hb _; replace A := Lib.hid (A.out.below hb.out); replace B := Lib.hid (bthen B.out hb.out); replace T := Lib.hid (T.out.below hb.out); clear hb; go_frame) | (refine wpList_var rfl rfl rfl _ _ rfl _ FN rfl rfl rfl ?_; intro w4 _ hb _; replace V := ex_var V hb.out; replace A := Lib.hid (A.out.below hb.out); replace B := Lib.hid (bthen B.out hb.out); replace T := Lib.hid (T.out.below hb.out); replace HF := Lib.hid ((hb.out.block _ (lt_of_heap HF.out)).trans HF.out : FaultAt g 54 3 w4); clear hb; go_frame) | (go_at_call 12; refine (N1.out g _ HF.out).mono ?_; rintro e w9 ⟨rfl, hb⟩; replace V := ex_var V hb; replace A := Lib.hid (A.out.below hb); replace B := Lib.hid (bthen B.out hb); replace T := Lib.hid (T.out.below hb); clear hb HF N1; go_frame) | (refine wpList_load_var rfl _ rfl _ v rfl FV V ?_; go_frame) | (go_at_call 9; refine (W1.out v _ A.out T.out).mono ?_; rintro e w5 ⟨rfl, hb⟩; replace V := ex_var V hb; replace A := Lib.hid (A.out.below hb); replace B := Lib.hid (bthen B.out hb); replace T := Lib.hid (T.out.below hb); clear hb W1; go_frame) | (go_at_call 13; refine (F1.out v _ A.out T.out).mono ?_; rintro e w6 ⟨u, rfl, FU, hm, hb⟩; replace V := ex_var V hb; replace A := Lib.hid (A.out.below hb); replace B := Lib.hid (bthen B.out hb); replace T := Lib.hid (T.out.below hb); obtain ⟨nu, ku, rfl⟩ := hm.parts; clear hm hb F1; go_frame) | (refine wpList_var rfl rfl rfl _ _ rfl _ FU rfl rfl rfl ?_; intro w7 V2 hb _; replace V := ex_var V hb.out; replace A := Lib.hid (A.out.below hb.out); replace B := Lib.hid (bthen B.out hb.out); replace T := Lib.hid (T.out.below hb.out); clear hb; go_frame))
  obtain ⟨nv, gk, ok, ck, kk, tt, nn, a1, c1, rfl, _, _, _, e0, e1, e2, e3⟩ := ex_cells A.out FV
  have FV2 := FV
  have V3 := V
  obtain ⟨d0, d1, d2, d3⟩ := var_cells V
  obtain ⟨u0, u1, u2, u3⟩ := var_cells V2
  have es1 := ES1.out
  have es2 := ES2.out
  clear FN FU V2 V ES1 ES2
  go_wp2_with (first | (refine wpList_load_var rfl _ rfl _ _ rfl FV2 V3 ?_; go_frame) | (go_at_call 11; refine (S1.out _ _ A.out T.out).mono ?_; rintro e w8 ⟨rfl, hb8⟩; go_frame))
  go_ret
  exact ⟨rfl, bthen B.out hb8⟩
end Go.Proofs.YthfnlnhehececaaDoor

/- What is wrong is something. -/
namespace Go.Proofs.YthfnlnhehececaaDoor
namespace Js
/-- What is wrong is something. -/
def Cd {α : Type} : Rs α → Prop
  | .ok _ _ => True
  | .bad c _ => c = 54 ∨ c = 57
theorem Cd.bind {α β : Type} {x : Rs α} {f : α → List UInt8 → Rs β} (h : Cd x) (k : ∀ a r, Cd (f a r)) : Cd (x.bind f) := by
  cases x with
  | ok a r => exact k a r
  | bad c r => exact h
theorem Cd.map {α β : Type} {x : Rs α} (f : α → β) (h : Cd x) : Cd (x.map f) := by
  cases x with
  | ok a r => trivial
  | bad c r => exact h
theorem Cd.ite {α : Type} {c : Prop} [Decidable c] {x y : Rs α} (h : Cd x) (k : Cd y) : Cd (if c then x else y) := by
  split
  · exact h
  · exact k
theorem Cd.bad {α : Type} (r : List UInt8) : Cd (.bad 54 r : Rs α) := Or.inl rfl
theorem tk_cd (b : UInt8) (l : List UInt8) : Cd (tk b l) := by
  cases l with
  | nil => exact Cd.bad _
  | cons c r => rw [tk]; exact Cd.ite trivial (Cd.bad _)
theorem wd_cd : ∀ w l, Cd (wd w l)
  | [], _ => trivial
  | b :: w, l => by rw [wd]; exact (tk_cd b l).bind fun _ r => wd_cd w r
theorem un_cd (b : List UInt8) : ∀ n a l, Cd (un b n a l)
  | 0, _, _ => trivial
  | _ + 1, _, [] => Cd.bad _
  | n + 1, a, c :: r => by
    rw [un]
    split
    · exact Cd.bad _
    · exact un_cd b n _ r
theorem tz_cd (b : List UInt8) (x : UInt8) (l : List UInt8) : Cd (tz b x l) := by
  cases l with
  | nil => exact Cd.bad _
  | cons c r => rw [tz]; exact Cd.ite trivial (Cd.bad _)
theorem cod_cd (b l : List UInt8) : Cd (cod b l) := by
  unfold cod
  refine (un_cd b 4 0 l).bind fun c r => Cd.ite (Cd.ite (Cd.bad _) ((tz_cd b 92 r).bind fun _ r2 => (tz_cd b 117 r2).bind fun _ r3 => ?_)) trivial
  unfold low
  exact (un_cd b 4 0 r3).bind fun m r => Cd.ite trivial (Cd.bad _)
theorem chr_cd (l : List UInt8) : Cd (chr l) := by
  unfold chr
  refine Cd.ite ?_ ?_
  · unfold esc
    split
    · exact Cd.bad _
    · split
      · trivial
      · exact Cd.ite (cod_cd _ _) (Cd.bad _)
  · split
    · exact Cd.bad _
    · exact Cd.ite (Cd.bad _) trivial
theorem tx_cd : ∀ n l, Cd (tx n l)
  | 0, _ => Cd.bad _
  | n + 1, l => by rw [tx]; exact Cd.ite trivial ((chr_cd l).bind fun c r => (tx_cd n r).map _)
theorem quoted_cd (l : List UInt8) : Cd (quoted l) := by unfold quoted; exact (tk_cd 34 l).bind fun _ r => tx_cd _ r
theorem mems_cd {α : Type} (e : UInt8) (f : List UInt8 → Rs α) (h : ∀ l, Cd (f l)) : ∀ n b l, Cd (mems e f n b l)
  | 0, _, _ => Cd.bad _
  | n + 1, b, l => by
    rw [mems]
    refine Cd.ite trivial (Cd.bind (Cd.ite trivial ((tk_cd 44 l).bind fun _ _ => trivial)) fun _ l1 => (h l1).bind fun a r => (mems_cd e f h n false (ws r)).map _)
theorem mem_cd (f : List UInt8 → Rs J) (h : ∀ l, Cd (f l)) (l : List UInt8) : Cd (mem f l) := by
  unfold mem
  exact (quoted_cd l).bind fun nm r => (tk_cd 58 _).bind fun _ r2 => (h _).map _
theorem num_cd (l : List UInt8) : Cd (num l) := by unfold num; exact Cd.ite trivial (Cd.bad _)
theorem val_cd : ∀ d l, Cd (val d l)
  | 0, l => by
    unfold val vstep
    exact Cd.ite ((wd_cd _ l).map _) (Cd.ite ((wd_cd _ l).map _) (Cd.ite ((wd_cd _ l).map _) (Cd.ite ((quoted_cd l).map _) (Cd.ite (Or.inr rfl) (Cd.ite (Or.inr rfl) (num_cd l))))))
  | d + 1, l => by
    rw [val]
    unfold vstep
    exact Cd.ite ((wd_cd _ l).map _) (Cd.ite ((wd_cd _ l).map _) (Cd.ite ((wd_cd _ l).map _) (Cd.ite ((quoted_cd l).map _) (Cd.ite ((mems_cd 93 _ (val_cd d) _ _ _).map _) (Cd.ite ((mems_cd 125 _ (mem_cd _ (val_cd d)) _ _ _).map _) (num_cd l))))))
theorem parse_code {S : List UInt8} {c p : Nat} (h : parse S = .bad c p) : c = 54 ∨ c = 56 ∨ c = 57 := by
  unfold parse at h
  split at h
  · injection h with h; exact Or.inr (Or.inl h.symm)
  · split at h
    · rename_i c' r hv
      injection h with h _
      subst h
      have := val_cd 20 (ws S)
      rw [hv] at this
      rcases this with h | h
      · exact Or.inl h
      · exact Or.inr (Or.inr h)
    · split at h
      · cases h
      · injection h with h _; exact Or.inl h.symm
theorem parse_place {S : List UInt8} {c p : Nat} (h : parse S = .bad c p) : p ≤ S.length := by
  unfold parse at h
  split at h
  · injection h with _ h; omega
  · split at h
    · injection h with _ h; omega
    · split at h
      · cases h
      · injection h with _ h; omega
end Js
end Go.Proofs.YthfnlnhehececaaDoor

/- Blanks ahead of and behind a text change nothing but the place at which something is wrong: the walk. -/
namespace Go.Proofs.YthfnlnhehececaaDoor
open Go Go.RowKit

def bl (k : Nat) : UInt8 := if k = 0 then 32 else if k = 1 then 9 else if k = 2 then 10 else 13
def blk (i : Nat) : List UInt8 := (List.range i).map fun k => bl (k % 4)
theorem blk_succ (i : Nat) : blk (i + 1) = blk i ++ [bl (i % 4)] := by unfold blk; rw [List.range_succ, List.map_append]; rfl
theorem blk_len (i : Nat) : (blk i).length = i := by simp [blk]
theorem blk_bl (i : Nat) : Js.Bl (blk i) := fun c hc => by
  unfold blk at hc
  obtain ⟨k, _, rfl⟩ := List.mem_map.1 hc
  unfold bl
  repeat' split
  all_goals decide
theorem sl_bl (r : Nat) (hr : r < 4) (w : World) : (Instr.slice 9 (.string ⟨#[32, 9, 10, 13]⟩) (some (.int .i64 (r : Int))) (some (.int .i64 ((r : Int) + 1))) none).run Tryd.prog w = .ok (.string (bs [bl r])) w := by
  have := run_mid_string (P := Tryd.prog) w 9 ⟨#[32, 9, 10, 13]⟩ .i64 .i64 r (r + 1) Tryd.underlying9 (by omega) (by simp [ByteArray.size]; omega)
  rw [Int.natCast_add] at this
  have key : ∀ r : Fin 4, (([32, 9, 10, 13] : List UInt8).take (r.1 + 1)).drop r.1 = [bl r.1] := by decide
  have e : (⟨#[32, 9, 10, 13]⟩ : ByteArray).extract r (r + 1) = bs [bl r] := bs_of (by rw [extract_list]; exact key ⟨r, hr⟩)
  rw [e] at this
  exact this
theorem add_bl (a b : List UInt8) (h : a.length + b.length ≤ 9000) (w : World) : (Op.stringOp .add (bs a) (bs b)).run Tryd.prog w = .ok (.string (bs (a ++ b))) w := add_any a b (by omega) w
/-- What a text came to: the value, or what is wrong. -/
def OutV (_w : World) (R : Js.Pr) (v u : Value) (w' : World) : Prop :=
  match R with
  | .ok j => AtW w' j v ∧ Four v ∧ u = .nilIface
  | .bad c p => v = .agg noRow.toArray ∧ ∃ g, u = faultV g ∧ FaultAt g c p w'
theorem parse_v (S : List UInt8) (w : World) (hT : Tb w) : Calls Tryd.prog 10 #[.string (bs S)] w fun e w' => ∃ v u, e = .returned (.tuple #[v, u]) ∧ Four v ∧ OutV w (Js.parse S) v u w' ∧ Below w.heap.size w w' := by
  refine (parse_any S w hT).mono fun e w' h => ?_
  cases hR : Js.parse S with
  | ok j =>
    rw [hR] at h
    obtain ⟨v, rfl, hm, hb⟩ := h
    exact ⟨v, _, rfl, hm.four, ⟨hm.atW, hm.four, rfl⟩, hb⟩
  | bad c p =>
    rw [hR] at h
    obtain ⟨g, _, rfl, hf, hb⟩ := h
    exact ⟨_, _, rfl, four_no, ⟨rfl, g, rfl, hf⟩, hb⟩
theorem OutV.below {w w1 w2 : World} {R : Js.Pr} {v u : Value} (h : OutV w R v u w1) (hb : Below w1.heap.size w1 w2) : OutV w R v u w2 := by
  cases R with
  | ok j => exact ⟨h.1.below hb, h.2.1, h.2.2⟩
  | bad c p =>
    obtain ⟨h1, g, h2, h3⟩ := h
    exact ⟨h1, g, h2, (hb.block _ (lt_of_heap h3)).trans h3⟩
def codeOf : Js.Pr → Nat
  | .ok _ => 0
  | .bad c _ => c
def placeOf : Js.Pr → Nat
  | .ok _ => 0
  | .bad _ p => p
/-- What is wrong, and where. -/
theorem told_v {w0 : World} (R : Js.Pr) (v u : Value) (w : World) (h : OutV w0 R v u w) (hc : codeOf R ≠ 0 ∨ ∃ j, R = .ok j) : Calls Tryd.prog 12 #[u] w fun e w' => e = .returned (.tuple #[.int .i64 (codeOf R), .int .i64 (placeOf R), .bool true]) ∧ Below w.heap.size w w' := by
  cases R with
  | ok j =>
    obtain ⟨_, _, rfl⟩ := h
    exact told_nil w
  | bad c p =>
    obtain ⟨_, g, rfl, hf⟩ := h
    exact told_fault g c p (by rcases hc with h | ⟨j, h⟩; exact h; cases h) w hf
end Go.Proofs.YthfnlnhehececaaDoor

/- Blanks ahead of and behind a text change nothing but the place at which something is wrong: the walk. -/
namespace Go.Proofs.YthfnlnhehececaaDoor
open Go Go.RowKit

set_option maxRecDepth 100000 in
set_option maxHeartbeats 8000000 in
theorem blanks_off (S : List UInt8) (n : Int) (hS : S.length ≤ 140737488355328) (h : n < 0 ∨ 100 < n ∨ 7000 < S.length) (w : World) (hT : Tb w) : Calls Tryd.prog 4 #[.string (bs S), .int .i64 n] w fun e w' => e = .returned (.bool true) ∧ Below w.heap.size w w' := by
  have X := Lib.hid (examples_true w hT)
  have hss : (bs S).size = S.length := bs_size S
  generalize bs S = s at *
  clear hT
  by_cases h1 : n < 0
  · have d1 : decide (n < 0) = true := decide_eq_true h1
    clear h
    go_enter Tryd.func4, Tryd.ntmps4
    go_wp2_with (first | (go_at_call 8; refine X.out.mono ?_; rintro e w1 ⟨rfl, hb1⟩; go_frame))
    go_ret
    exact ⟨rfl, hb1⟩
  · have d1 : decide (n < 0) = false := decide_eq_false h1
    by_cases h2 : 100 < n
    · have d2 : decide (100 < n) = true := decide_eq_true h2
      clear h
      go_enter Tryd.func4, Tryd.ntmps4
      go_wp2_with (first | (go_at_call 8; refine X.out.mono ?_; rintro e w1 ⟨rfl, hb1⟩; go_frame))
      go_ret
      exact ⟨rfl, hb1⟩
    · have d2 : decide (100 < n) = false := decide_eq_false h2
      have h3 : 7000 < S.length := by omega
      have d3 : decide (7000 < S.length) = true := decide_eq_true h3
      clear h
      go_enter Tryd.func4, Tryd.ntmps4
      go_wp2_with (first | (go_at_call 8; refine X.out.mono ?_; rintro e w1 ⟨rfl, hb1⟩; go_frame))
      go_ret
      exact ⟨rfl, hb1⟩
theorem fault_below {w w' : World} {g c p : Nat} (h : Hid (FaultAt g c p w)) (hb : Below w.heap.size w w') : FaultAt g c p w' := (hb.block _ (lt_of_heap h.out)).trans h.out
set_option maxRecDepth 100000 in
set_option maxHeartbeats 8000000 in
theorem blanks_on (S : List UInt8) (n : Nat) (hn : n ≤ 100) (hS : S.length ≤ 7000) (w : World) (hT : Tb w) : Calls Tryd.prog 4 #[.string (bs S), .int .i64 (n : Int)] w fun e w' => e = .returned (.bool true) ∧ Below w.heap.size w w' := by
  have X := Lib.hid (examples_true w hT)
  have hss : (bs S).size = S.length := bs_size S
  have key := Js.parse_blanks hS (blk_bl n) (by rw [blk_len]; exact hn)
  rw [blk_len] at key
  have A1 := Lib.hid (fun v : World => add_bl (blk n) S (by rw [blk_len]; omega) v)
  have A2 := Lib.hid (fun v : World => add_bl (blk n ++ S) (blk n) (by rw [List.length_append, blk_len]; omega) v)
  have AL := Lib.hid (fun i (hi : i < n) (v : World) => add_bl (blk i) [bl (i % 4)] (by rw [blk_len]; simp; omega) v)
  cases hR : Js.parse S with
  | ok j =>
    obtain ⟨jk, jt, jn, jks⟩ := j
    rw [hR] at key
    have P1 := Lib.hid (fun v hv => parse_ok_w hR v hv)
    have P2 := Lib.hid (fun v hv => parse_ok_w key v hv)
    obtain ⟨hr, _, hf⟩ := Js.parse_right hR
    have SS := Lib.hid (fun v u x a1 a2 hx => same_self _ v u x hr hf a1 a2 hx)
    have T0 := Lib.hid hT
    have d1 : decide ((n : Int) < 0) = false := decide_eq_false (by omega)
    have d2 : decide (100 < (n : Int)) = false := decide_eq_false (by omega)
    have d3 : decide (7000 < S.length) = false := decide_eq_false (by omega)
    clear key hR hr hf hT
    go_enter Tryd.func4, Tryd.ntmps4
    go_wp2_with (first | (go_at_call 8; refine X.out.mono ?_; rintro e w1 ⟨rfl, hb1⟩; have B := Lib.hid hb1; have T := Lib.hid (T0.out.below hb1); clear hb1 X; go_frame))
    go_loopw [6, 7] (fun sv iv wx => ∃ i : Nat, i ≤ n ∧ iv = .int .i64 i ∧ sv = .string (bs (blk i)) ∧ wx = w1) (fun _ iv _ => n - (intOf iv).toNat)
    case atStart => exact ⟨0, by omega, rfl, by rw [show blk 0 = [] from rfl, ← bs_nil], rfl⟩
    case round =>
      obtain ⟨i, hi, rfl, rfl, rfl⟩ := hrel
      by_cases hin : i < n
      · have hm : (i : Int).tmod 4 = ((i % 4 : Nat) : Int) := by rw [Int.tmod_eq_emod_of_nonneg (by omega)]; simp
        have hr4 : i % 4 < 4 := Nat.mod_lt _ (by omega)
        have SL := fun v => sl_bl (i % 4) hr4 v
        have AD := AL.out i hin
        rw [← blk_succ] at AD
        generalize i % 4 = r at *
        go_wp2_with fail
        go_roundw
        case rel => exact ⟨i + 1, by omega, rfl, rfl, by trivial⟩
        case measure => simp only [intOf]; omega
      · obtain rfl : i = n := by omega
        have D1 := A1.out
        have D2 := A2.out
        have e1 : ∃ z, z = bs (blk i) := ⟨_, rfl⟩
        obtain ⟨zb, hz⟩ := e1
        obtain ⟨zs, hzs⟩ : ∃ z, z = bs S := ⟨_, rfl⟩
        obtain ⟨za, hza⟩ : ∃ z, z = bs (blk i ++ S) := ⟨_, rfl⟩
        obtain ⟨zc, hzc⟩ : ∃ z, z = bs (blk i ++ S ++ blk i) := ⟨_, rfl⟩
        rw [← hz, ← hzs, ← hza] at D1
        rw [← hz, ← hza, ← hzc] at D2
        rw [← hzs] at P1 hss
        rw [← hzc] at P2
        rw [← hz]
        try rw [← hzs]
        clear hz hzs hza hzc A1 A2 AL
        go_upto_region 14 with (first | (go_at_call 10; first | ((with_reducible refine (P1.out _ T.out).mono ?_); rintro e w2 ⟨v, rfl, FV, hm, hb⟩; obtain ⟨nv, kv, rfl⟩ := hm.parts; have A := Lib.hid hm; replace B := Lib.hid (bthen B.out hb); replace T := Lib.hid (T.out.below hb); clear hm hb P1; go_frame) | ((with_reducible refine (P2.out _ T.out).mono ?_); rintro e w4 ⟨u, rfl, FU, hm, hb⟩; obtain ⟨nv2, kv2, rfl⟩ := hm.parts; have A2 := Lib.hid hm; replace V := ex_var V hb; replace A := Lib.hid (A.out.below hb); replace B := Lib.hid (bthen B.out hb); replace T := Lib.hid (T.out.below hb); clear hm hb P2; go_frame)) | (refine wpList_var rfl rfl rfl _ _ rfl _ FV rfl rfl rfl ?_; intro w3 V hb _; replace A := Lib.hid (A.out.below hb.out); replace B := Lib.hid (bthen B.out hb.out); replace T := Lib.hid (T.out.below hb.out); clear hb; go_frame) | (refine wpList_var rfl rfl rfl _ _ rfl _ FU rfl rfl rfl ?_; intro w5 V2 hb _; replace V := ex_var V hb.out; replace A := Lib.hid (A.out.below hb.out); replace A2 := Lib.hid (A2.out.below hb.out); replace B := Lib.hid (bthen B.out hb.out); replace T := Lib.hid (T.out.below hb.out); clear hb; go_frame) | (go_at_call 12; refine (told_nil _).mono ?_; rintro e w6 ⟨rfl, hb⟩; replace V := ex_var V hb; replace V2 := ex_var V2 hb; replace A := Lib.hid (A.out.below hb); replace A2 := Lib.hid (A2.out.below hb); replace B := Lib.hid (bthen B.out hb); replace T := Lib.hid (T.out.below hb); clear hb; go_frame))
        obtain ⟨d0', d1', d2', d3'⟩ := var_cells V
        obtain ⟨u0, u1, u2, u3⟩ := var_cells V2
        clear FV FU V V2
        go_wp2_with (go_at_call 11; refine (SS.out _ _ _ A.out A2.out T.out).mono ?_; rintro e w8 ⟨rfl, hb8⟩; go_frame)
        go_ret
        exact ⟨rfl, bthen B.out hb8⟩
  | bad c p =>
    rw [hR] at key
    obtain ⟨q, hq, hpq⟩ := key
    have P1 := Lib.hid (fun v hv => parse_bad_w hR v hv)
    have P2 := Lib.hid (fun v hv => parse_bad_w hq v hv)
    have hcc := Js.parse_code hR
    have hc0 : c ≠ 0 := by omega
    have i0 : ((c : Int) == 0) = false := by simp only [beq_eq_false_iff_ne]; omega
    have FN := four_no
    have T0 := Lib.hid hT
    have d1 : decide ((n : Int) < 0) = false := decide_eq_false (by omega)
    have d2 : decide (100 < (n : Int)) = false := decide_eq_false (by omega)
    have d3 : decide (7000 < S.length) = false := decide_eq_false (by omega)
    have hp8 : p ≤ 7000 := Nat.le_trans (Js.parse_place hR) hS
    have ecc : ((c : Int) == (c : Int)) = true := by simp
    clear hq hR hT hcc
    by_cases hqn : q = p + n
    · have i1 : ((q : Int) == (p : Int) + (n : Int)) = true := by simp; omega
      clear hpq hqn
      go_enter Tryd.func4, Tryd.ntmps4
      go_wp2_with (first | (go_at_call 8; refine X.out.mono ?_; rintro e w1 ⟨rfl, hb1⟩; have B := Lib.hid hb1; have T := Lib.hid (T0.out.below hb1); clear hb1 X; go_frame))
      go_loopw [6, 7] (fun sv iv wx => ∃ i : Nat, i ≤ n ∧ iv = .int .i64 i ∧ sv = .string (bs (blk i)) ∧ wx = w1) (fun _ iv _ => n - (intOf iv).toNat)
      case atStart => exact ⟨0, by omega, rfl, by rw [show blk 0 = [] from rfl, ← bs_nil], rfl⟩
      case round =>
        obtain ⟨i, hi, rfl, rfl, rfl⟩ := hrel
        by_cases hin : i < n
        · have hm : (i : Int).tmod 4 = ((i % 4 : Nat) : Int) := by rw [Int.tmod_eq_emod_of_nonneg (by omega)]; simp
          have hr4 : i % 4 < 4 := Nat.mod_lt _ (by omega)
          have SL := fun v => sl_bl (i % 4) hr4 v
          have AD := AL.out i hin
          rw [← blk_succ] at AD
          generalize i % 4 = r at *
          go_wp2_with fail
          go_roundw
          case rel => exact ⟨i + 1, by omega, rfl, rfl, by trivial⟩
          case measure => simp only [intOf]; omega
        · obtain rfl : i = n := by omega
          have D1 := A1.out
          have D2 := A2.out
          have e1 : ∃ z, z = bs (blk i) := ⟨_, rfl⟩
          obtain ⟨zb, hz⟩ := e1
          obtain ⟨zs, hzs⟩ : ∃ z, z = bs S := ⟨_, rfl⟩
          obtain ⟨za, hza⟩ : ∃ z, z = bs (blk i ++ S) := ⟨_, rfl⟩
          obtain ⟨zc, hzc⟩ : ∃ z, z = bs (blk i ++ S ++ blk i) := ⟨_, rfl⟩
          rw [← hz, ← hzs, ← hza] at D1
          rw [← hz, ← hza, ← hzc] at D2
          rw [← hzs] at P1 hss
          rw [← hzc] at P2
          rw [← hz]
          try rw [← hzs]
          clear hz hzs hza hzc A1 A2 AL
          go_wp2_with (first | (go_at_call 10; first | ((with_reducible refine (P1.out _ T.out).mono ?_); rintro e w2 ⟨g, rfl, hf, hb⟩; have F1 := Lib.hid hf; replace B := Lib.hid (bthen B.out hb); replace T := Lib.hid (T.out.below hb); clear hf hb P1; go_frame) | ((with_reducible refine (P2.out _ T.out).mono ?_); rintro e w4 ⟨g2, rfl, hf, hb⟩; have F2 := Lib.hid hf; replace F1 := Lib.hid (fault_below F1 hb); replace B := Lib.hid (bthen B.out hb); replace T := Lib.hid (T.out.below hb); clear hf hb P2; go_frame)) | (refine wpList_var rfl rfl rfl _ _ rfl _ FN rfl rfl rfl ?_; intro w3 _ hb _; replace F1 := Lib.hid (fault_below F1 hb.out); (try (replace F2 := Lib.hid (fault_below F2 hb.out))); replace B := Lib.hid (bthen B.out hb.out); replace T := Lib.hid (T.out.below hb.out); clear hb; go_frame) | (go_at_call 12; first | ((refine (told_fault g c p hc0 _ F1.out).mono ?_); rintro e w6 ⟨rfl, hb⟩; replace F2 := Lib.hid (fault_below F2 hb); replace B := Lib.hid (bthen B.out hb); clear hb F1; go_frame) | ((refine (told_fault g2 c q hc0 _ F2.out).mono ?_); rintro e w7 ⟨rfl, hb⟩; replace B := Lib.hid (bthen B.out hb); clear hb F2; go_frame)))
          all_goals
            go_ret
            exact ⟨rfl, B.out⟩
    · have hps : p = S.length := by rcases hpq with h | h; exact absurd h hqn; exact h
      have i1 : ((q : Int) == (p : Int) + (n : Int)) = false := by simp; omega
      have i2 : ((p : Int) == (S.length : Int)) = true := by simp; omega
      have HPS := Lib.hid hps
      clear hpq hqn hps
      go_enter Tryd.func4, Tryd.ntmps4
      go_wp2_with (first | (go_at_call 8; refine X.out.mono ?_; rintro e w1 ⟨rfl, hb1⟩; have B := Lib.hid hb1; have T := Lib.hid (T0.out.below hb1); clear hb1 X; go_frame))
      go_loopw [6, 7] (fun sv iv wx => ∃ i : Nat, i ≤ n ∧ iv = .int .i64 i ∧ sv = .string (bs (blk i)) ∧ wx = w1) (fun _ iv _ => n - (intOf iv).toNat)
      case atStart => exact ⟨0, by omega, rfl, by rw [show blk 0 = [] from rfl, ← bs_nil], rfl⟩
      case round =>
        obtain ⟨i, hi, rfl, rfl, rfl⟩ := hrel
        by_cases hin : i < n
        · have hm : (i : Int).tmod 4 = ((i % 4 : Nat) : Int) := by rw [Int.tmod_eq_emod_of_nonneg (by omega)]; simp
          have hr4 : i % 4 < 4 := Nat.mod_lt _ (by omega)
          have SL := fun v => sl_bl (i % 4) hr4 v
          have AD := AL.out i hin
          rw [← blk_succ] at AD
          generalize i % 4 = r at *
          go_wp2_with fail
          go_roundw
          case rel => exact ⟨i + 1, by omega, rfl, rfl, by trivial⟩
          case measure => simp only [intOf]; omega
        · obtain rfl : i = n := by omega
          have D1 := A1.out
          have D2 := A2.out
          have e1 : ∃ z, z = bs (blk i) := ⟨_, rfl⟩
          obtain ⟨zb, hz⟩ := e1
          obtain ⟨zs, hzs⟩ : ∃ z, z = bs S := ⟨_, rfl⟩
          obtain ⟨za, hza⟩ : ∃ z, z = bs (blk i ++ S) := ⟨_, rfl⟩
          obtain ⟨zc, hzc⟩ : ∃ z, z = bs (blk i ++ S ++ blk i) := ⟨_, rfl⟩
          rw [← hz, ← hzs, ← hza] at D1
          rw [← hz, ← hza, ← hzc] at D2
          rw [← hzs] at P1 hss
          rw [← hzc] at P2
          rw [← hz]
          try rw [← hzs]
          clear hz hzs hza hzc A1 A2 AL
          go_wp2_with (first | (go_at_call 10; first | ((with_reducible refine (P1.out _ T.out).mono ?_); rintro e w2 ⟨g, rfl, hf, hb⟩; have F1 := Lib.hid hf; replace B := Lib.hid (bthen B.out hb); replace T := Lib.hid (T.out.below hb); clear hf hb P1; go_frame) | ((with_reducible refine (P2.out _ T.out).mono ?_); rintro e w4 ⟨g2, rfl, hf, hb⟩; have F2 := Lib.hid hf; replace F1 := Lib.hid (fault_below F1 hb); replace B := Lib.hid (bthen B.out hb); replace T := Lib.hid (T.out.below hb); clear hf hb P2; go_frame)) | (refine wpList_var rfl rfl rfl _ _ rfl _ FN rfl rfl rfl ?_; intro w3 _ hb _; replace F1 := Lib.hid (fault_below F1 hb.out); (try (replace F2 := Lib.hid (fault_below F2 hb.out))); replace B := Lib.hid (bthen B.out hb.out); replace T := Lib.hid (T.out.below hb.out); clear hb; go_frame) | (go_at_call 12; first | ((refine (told_fault g c p hc0 _ F1.out).mono ?_); rintro e w6 ⟨rfl, hb⟩; replace F2 := Lib.hid (fault_below F2 hb); replace B := Lib.hid (bthen B.out hb); clear hb F1; go_frame) | ((refine (told_fault g2 c q hc0 _ F2.out).mono ?_); rintro e w7 ⟨rfl, hb⟩; replace B := Lib.hid (bthen B.out hb); clear hb F2; go_frame)))
          all_goals
            go_ret
            exact ⟨rfl, B.out⟩
theorem Blanks_true (S : List UInt8) (n : Int) (hS : S.length ≤ 140737488355328) (w : World) (hT : Tb w) : Calls Tryd.prog 4 #[.string (bs S), .int .i64 n] w fun e w' => e = .returned (.bool true) ∧ Below w.heap.size w w' := by
  by_cases h : n < 0 ∨ 100 < n ∨ 7000 < S.length
  · exact blanks_off S n hS h w hT
  · obtain ⟨m, rfl⟩ : ∃ m : Nat, n = m := ⟨n.toNat, by omega⟩
    exact blanks_on S m (by omega) (by omega) w hT
end Go.Proofs.YthfnlnhehececaaDoor

/- A value within a list is read as it is alone, and so it is under a name: the walk. -/
namespace Go.Proofs.YthfnlnhehececaaDoor
open Go Go.RowKit

set_option maxRecDepth 100000 in
set_option maxHeartbeats 8000000 in
theorem wrapped_long (S : List UInt8) (h : 7000 < S.length) (w : World) (hT : Tb w) : Calls Tryd.prog 5 #[.string (bs S)] w fun e w' => e = .returned (.bool true) ∧ Below w.heap.size w w' := by
  have X := Lib.hid (examples_true w hT)
  have hss : (bs S).size = S.length := bs_size S
  generalize bs S = s at *
  have d1 : decide (7000 < S.length) = true := decide_eq_true h
  clear hT
  go_enter Tryd.func5, Tryd.ntmps5
  go_wp2_with (first | (go_at_call 8; refine X.out.mono ?_; rintro e w1 ⟨rfl, hb1⟩; go_frame))
  go_ret
  exact ⟨rfl, hb1⟩
theorem ne_fault (g : Nat) (w : World) : (binOp .neq 31 (faultV g) .nilIface).run Tryd.prog w = .ok (.bool true) w := by unfold faultV; kernel_rfl
theorem gdn_fault (g : Nat) (x y : Operand) (w : World) : (eqGuard .neq 31 x y (faultV g) .nilIface).run Tryd.prog w = .ok () w := by unfold faultV; rfl
set_option maxRecDepth 100000 in
set_option maxHeartbeats 8000000 in
theorem wrapped_bad (S : List UInt8) (h : S.length ≤ 7000) (c p : Nat) (hR : Js.parse S = .bad c p) (w : World) (hT : Tb w) : Calls Tryd.prog 5 #[.string (bs S)] w fun e w' => e = .returned (.bool true) ∧ Below w.heap.size w w' := by
  have X := Lib.hid (examples_true w hT)
  have hss : (bs S).size = S.length := bs_size S
  have P1 := Lib.hid (fun v hv => parse_bad_w hR v hv)
  generalize bs S = s at *
  have d1 : decide (7000 < S.length) = false := decide_eq_false (by omega)
  have T0 := Lib.hid hT
  have FN := four_no
  have q1 := fun g w => ne_fault g w
  have q2 := fun g x y w => gdn_fault g x y w
  clear hT hR
  go_enter Tryd.func5, Tryd.ntmps5
  go_wp2_with (first | (go_at_call 8; refine X.out.mono ?_; rintro e w1 ⟨rfl, hb1⟩; have B := Lib.hid hb1; have T := Lib.hid (T0.out.below hb1); clear hb1 X; go_frame) | (go_at_call 10; (refine (P1.out _ T.out).mono ?_); rintro e w2 ⟨g, rfl, hf, hb⟩; replace B := Lib.hid (bthen B.out hb); have q3 := fun w => ne_fault g w; have q4 := fun x y w => gdn_fault g x y w; clear hf hb P1; go_frame) | (refine wpList_var rfl rfl rfl _ _ rfl _ FN rfl rfl rfl ?_; intro w3 _ hb _; replace B := Lib.hid (bthen B.out hb.out); clear hb; go_frame))
  go_ret
  exact ⟨rfl, B.out⟩
theorem add_to {X s : ByteArray} {A : List UInt8} (S : List UInt8) (hX : X = ⟨A.toArray⟩) (hs : s = bs S) (h : A.length + S.length ≤ 9000) (w : World) : (Op.stringOp .add X s).run Tryd.prog w = .ok (.string (bs (A ++ S))) w := by
  rw [hX, hs, bs_eq]; exact add_bl A S h w
theorem add_end {X s : ByteArray} {A : List UInt8} (S : List UInt8) (hX : X = ⟨A.toArray⟩) (hs : s = bs S) (h : S.length + A.length ≤ 9000) (w : World) : (Op.stringOp .add s X).run Tryd.prog w = .ok (.string (bs (S ++ A))) w := by
  rw [hX, hs, bs_eq]; exact add_bl S A h w
set_option maxRecDepth 100000 in
set_option maxHeartbeats 8000000 in
theorem wrapped_deep (S : List UInt8) (h : S.length ≤ 7000) (j : Js.J) (hR : Js.parse S = .ok j) (p q : Nat) (h1 : Js.parse (91 :: (S ++ [44, 48, 93])) = .bad 57 p) (h2 : Js.parse (123 :: 34 :: 110 :: 34 :: 58 :: (S ++ [125])) = .bad 57 q) (w : World) (hT : Tb w) :
    Calls Tryd.prog 5 #[.string (bs S)] w fun e w' => e = .returned (.bool true) ∧ Below w.heap.size w w' := by
  have X := Lib.hid (examples_true w hT)
  have hss : (bs S).size = S.length := bs_size S
  have P1 := Lib.hid (fun v hv => parse_ok_w hR v hv)
  have P2 := Lib.hid (fun v hv => parse_bad_w h1 v hv)
  have P3 := Lib.hid (fun v hv => parse_bad_w h2 v hv)
  obtain ⟨s, hs⟩ : ∃ s, s = bs S := ⟨_, rfl⟩
  have A1 : ∀ v : World, (Op.stringOp .add ⟨#[91]⟩ s).run Tryd.prog v = .ok (.string (bs ([91] ++ S))) v := fun v => add_to (A := [91]) S rfl hs (by simp; omega) v
  have A3 : ∀ v : World, (Op.stringOp .add ⟨#[123, 34, 110, 34, 58]⟩ s).run Tryd.prog v = .ok (.string (bs ([123, 34, 110, 34, 58] ++ S))) v := fun v => add_to (A := [123, 34, 110, 34, 58]) S rfl hs (by simp; omega) v
  obtain ⟨s1, hs1⟩ : ∃ s, s = bs ([91] ++ S) := ⟨_, rfl⟩
  obtain ⟨s3, hs3⟩ : ∃ s, s = bs ([123, 34, 110, 34, 58] ++ S) := ⟨_, rfl⟩
  have A2 : ∀ v : World, (Op.stringOp .add s1 ⟨#[44, 48, 93]⟩).run Tryd.prog v = .ok (.string (bs (91 :: (S ++ [44, 48, 93])))) v := fun v => add_end (A := [44, 48, 93]) ([91] ++ S) rfl hs1 (by simp; omega) v
  have A4 : ∀ v : World, (Op.stringOp .add s3 ⟨#[125]⟩).run Tryd.prog v = .ok (.string (bs (123 :: 34 :: 110 :: 34 :: 58 :: (S ++ [125])))) v := fun v => add_end (A := [125]) ([123, 34, 110, 34, 58] ++ S) rfl hs3 (by simp; omega) v
  rw [← hs1] at A1
  rw [← hs3] at A3
  rw [← hs] at P1 hss ⊢
  obtain ⟨s2, hs2⟩ : ∃ s, s = bs (91 :: (S ++ [44, 48, 93])) := ⟨_, rfl⟩
  obtain ⟨s4, hs4⟩ : ∃ s, s = bs (123 :: 34 :: 110 :: 34 :: 58 :: (S ++ [125])) := ⟨_, rfl⟩
  rw [← hs2] at A2 P2
  rw [← hs4] at A4 P3
  clear hs hs1 hs2 hs3 hs4 hR h1 h2
  have d1 : decide (7000 < S.length) = false := decide_eq_false (by omega)
  have T0 := Lib.hid hT
  have FN := four_no
  have qn := ne_nil
  clear hT
  go_enter Tryd.func5, Tryd.ntmps5
  go_wp2_with (first | (go_at_call 8; refine X.out.mono ?_; rintro e w1 ⟨rfl, hb1⟩; have B := Lib.hid hb1; have T := Lib.hid (T0.out.below hb1); clear hb1 X; go_frame) | (go_at_call 10; first | ((with_reducible refine (P1.out _ T.out).mono ?_); rintro e w2 ⟨v, rfl, FV, _, hb⟩; replace B := Lib.hid (bthen B.out hb); replace T := Lib.hid (T.out.below hb); clear hb P1; go_frame) | ((with_reducible refine (P2.out _ T.out).mono ?_); rintro e w4 ⟨g, rfl, hf, hb⟩; have F1 := Lib.hid hf; replace B := Lib.hid (bthen B.out hb); replace T := Lib.hid (T.out.below hb); clear hf hb P2; go_frame) | ((with_reducible refine (P3.out _ T.out).mono ?_); rintro e w6 ⟨g2, rfl, hf, hb⟩; have F2 := Lib.hid hf; replace F1 := Lib.hid (fault_below F1 hb); replace B := Lib.hid (bthen B.out hb); replace T := Lib.hid (T.out.below hb); clear hf hb P3; go_frame)) | (refine wpList_var rfl rfl rfl _ _ rfl _ FV rfl rfl rfl ?_; intro w3 _ hb _; replace B := Lib.hid (bthen B.out hb.out); replace T := Lib.hid (T.out.below hb.out); clear hb; go_frame) | (refine wpList_var rfl rfl rfl _ _ rfl _ FN rfl rfl rfl ?_; intro w3 _ hb _; replace F1 := Lib.hid (fault_below F1 hb.out); (try (replace F2 := Lib.hid (fault_below F2 hb.out))); replace B := Lib.hid (bthen B.out hb.out); replace T := Lib.hid (T.out.below hb.out); clear hb; go_frame) | (go_at_call 12; first | ((refine (told_fault g 57 p (by decide) _ F1.out).mono ?_); rintro e w7 ⟨rfl, hb⟩; replace F2 := Lib.hid (fault_below F2 hb); replace B := Lib.hid (bthen B.out hb); clear hb F1; go_frame) | ((refine (told_fault g2 57 q (by decide) _ F2.out).mono ?_); rintro e w8 ⟨rfl, hb⟩; replace B := Lib.hid (bthen B.out hb); clear hb F2; go_frame)))
  go_ret
  exact ⟨rfl, B.out⟩
end Go.Proofs.YthfnlnhehececaaDoor

/- A value within a list is read as it is alone, and so it is under a name: the walk where it is not too deep. -/
namespace Go.Proofs.YthfnlnhehececaaDoor
open Go Go.RowKit

/-- The first of a list of two. -/
theorem list_cells {w : World} {j i : Js.J} {v : Value} (h : AtW w (.mk 6 [] [] [j, i]) v) : ∃ n6 g o c v1, v = jv 6 [] n6 (.slice (some ⟨g, o, none⟩) 2 c) ∧ g < w.heap.size ∧ Lies w g o v1 ∧ AtW w j v1 := by
  obtain ⟨nv, kv, vs, rfl, h1, _, _, hk, hl, hs⟩ := At.jv_ h
  rcases hk with ⟨rfl, _⟩ | ⟨g, o, c, rfl, _, hF, hg, hc⟩
  · simp at hl
  · have hl1 : vs.length = 2 := hl
    rw [hl1]
    obtain ⟨v1, hv1⟩ : ∃ v1, vs[0]? = some v1 := ⟨vs[0], List.getElem?_eq_getElem (by omega)⟩
    exact ⟨nv, g, o, c, v1, rfl, hg, hc 0 _ hv1, hs 0 _ v1 rfl hv1⟩
theorem lies_cells {w : World} {g o : Nat} {k : Int} {t : List UInt8} {nv kv : Value} (h : Lies w g o (jv k t nv kv)) : w.cell? ⟨g, o, none⟩ = some (.int .i64 k) ∧ w.cell? ⟨g, o + 1, none⟩ = some (.string (bs t)) ∧ w.cell? ⟨g, o + 2, none⟩ = some nv ∧ w.cell? ⟨g, o + 3, none⟩ = some kv := by
  obtain ⟨x0, x1, x2, x3, he, e0, e1, e2, e3⟩ := h
  unfold jv at he
  simp only [Value.agg.injEq, Array.mk.injEq, List.cons.injEq, and_true] at he
  obtain ⟨rfl, rfl, rfl, rfl⟩ := he
  exact ⟨e0, e1, e2, e3⟩
theorem find_n {j : Js.J} (h : Js.right (.mk 7 [] [[110]] [j]) = true) : Js.find (.mk 7 [] [[110]] [j]) [110] = some j := by
  unfold Js.find; simp only []; rw [if_pos ⟨trivial, h⟩]; rfl
set_option maxRecDepth 100000 in
set_option maxHeartbeats 8000000 in
theorem wrapped_on (S : List UInt8) (h : S.length ≤ 7000) (j : Js.J) (hR : Js.parse S = .ok j) (h1 : Js.parse (91 :: (S ++ [44, 48, 93])) = .ok (.mk 6 [] [] [j, .mk 4 [48] [] []])) (h2 : Js.parse (123 :: 34 :: 110 :: 34 :: 58 :: (S ++ [125])) = .ok (.mk 7 [] [[110]] [j])) (w : World) (hT : Tb w) :
    Calls Tryd.prog 5 #[.string (bs S)] w fun e w' => e = .returned (.bool true) ∧ Below w.heap.size w w' := by
  have X := Lib.hid (examples_true w hT)
  have hss : (bs S).size = S.length := bs_size S
  obtain ⟨hr, _, hf⟩ := Js.parse_right hR
  obtain ⟨hr2, _, hf2⟩ := Js.parse_right h2
  obtain ⟨k, t, ns, ks⟩ := j
  have P1 := Lib.hid (fun v hv => parse_ok_w hR v hv)
  have P2 := Lib.hid (fun v hv => parse_ok_w h1 v hv)
  have P3 := Lib.hid (fun v hv => parse_ok_w h2 v hv)
  have FF := Lib.hid (fun v w ha hw => find_some_w (find_n hr2) hf2 v w ha hw)
  rw [← bs_eq] at FF
  have SS := Lib.hid (fun v u x a1 a2 hx => same_self (.mk k t ns ks) v u x hr hf a1 a2 hx)
  obtain ⟨s, hs⟩ : ∃ s, s = bs S := ⟨_, rfl⟩
  have A1 : ∀ v : World, (Op.stringOp .add ⟨#[91]⟩ s).run Tryd.prog v = .ok (.string (bs ([91] ++ S))) v := fun v => add_to (A := [91]) S rfl hs (by simp; omega) v
  have A3 : ∀ v : World, (Op.stringOp .add ⟨#[123, 34, 110, 34, 58]⟩ s).run Tryd.prog v = .ok (.string (bs ([123, 34, 110, 34, 58] ++ S))) v := fun v => add_to (A := [123, 34, 110, 34, 58]) S rfl hs (by simp; omega) v
  obtain ⟨s1, hs1⟩ : ∃ s, s = bs ([91] ++ S) := ⟨_, rfl⟩
  obtain ⟨s3, hs3⟩ : ∃ s, s = bs ([123, 34, 110, 34, 58] ++ S) := ⟨_, rfl⟩
  have A2 : ∀ v : World, (Op.stringOp .add s1 ⟨#[44, 48, 93]⟩).run Tryd.prog v = .ok (.string (bs (91 :: (S ++ [44, 48, 93])))) v := fun v => add_end (A := [44, 48, 93]) ([91] ++ S) rfl hs1 (by simp; omega) v
  have A4 : ∀ v : World, (Op.stringOp .add s3 ⟨#[125]⟩).run Tryd.prog v = .ok (.string (bs (123 :: 34 :: 110 :: 34 :: 58 :: (S ++ [125])))) v := fun v => add_end (A := [125]) ([123, 34, 110, 34, 58] ++ S) rfl hs3 (by simp; omega) v
  rw [← hs1] at A1
  rw [← hs3] at A3
  rw [← hs] at P1 hss ⊢
  obtain ⟨s2, hs2⟩ : ∃ s, s = bs (91 :: (S ++ [44, 48, 93])) := ⟨_, rfl⟩
  obtain ⟨s4, hs4⟩ : ∃ s, s = bs (123 :: 34 :: 110 :: 34 :: 58 :: (S ++ [125])) := ⟨_, rfl⟩
  rw [← hs2] at A2 P2
  rw [← hs4] at A4 P3
  clear hs hs1 hs2 hs3 hs4 hR h1 h2 hr hr2 hf hf2
  have d1 : decide (7000 < S.length) = false := decide_eq_false (by omega)
  have T0 := Lib.hid hT
  have qn := ne_nil
  clear hT
  go_enter Tryd.func5, Tryd.ntmps5
  go_upto_region 14 with (first | (go_at_call 8; refine X.out.mono ?_; rintro e w1 ⟨rfl, hb1⟩; have B := Lib.hid hb1; have T := Lib.hid (T0.out.below hb1); clear hb1 X; go_frame) | (go_at_call 10; first | ((with_reducible refine (P1.out _ T.out).mono ?_); rintro e w2 ⟨v, rfl, FV, hm, hb⟩; obtain ⟨nv, kv, rfl⟩ := hm.parts; have A := Lib.hid hm; replace B := Lib.hid (bthen B.out hb); replace T := Lib.hid (T.out.below hb); clear hm hb P1; go_frame) | ((with_reducible refine (P2.out _ T.out).mono ?_); rintro e w4 ⟨v6, rfl, FV6, hm, hb⟩; have A6 := Lib.hid hm; replace V := ex_var V hb; replace A := Lib.hid (A.out.below hb); replace B := Lib.hid (bthen B.out hb); replace T := Lib.hid (T.out.below hb); clear hm hb P2; go_frame) | ((with_reducible refine (P3.out _ T.out).mono ?_); rintro e w6 ⟨v8, rfl, FV8, hm, hb⟩; have A8 := Lib.hid hm; replace V := ex_var V hb; replace V6 := ex_var V6 hb; replace A := Lib.hid (A.out.below hb); replace A6 := Lib.hid (A6.out.below hb); replace B := Lib.hid (bthen B.out hb); replace T := Lib.hid (T.out.below hb); clear hm hb P3; go_frame)) | (refine wpList_var rfl rfl rfl _ _ rfl _ FV rfl rfl rfl ?_; intro w3 V hb _; replace A := Lib.hid (A.out.below hb.out); replace B := Lib.hid (bthen B.out hb.out); replace T := Lib.hid (T.out.below hb.out); clear hb FV; go_frame) | (refine wpList_var rfl rfl rfl _ _ rfl v6 FV6 rfl rfl rfl ?_; intro w5 V6 hb _; replace V := ex_var V hb.out; replace A := Lib.hid (A.out.below hb.out); replace A6 := Lib.hid (A6.out.below hb.out); replace B := Lib.hid (bthen B.out hb.out); replace T := Lib.hid (T.out.below hb.out); clear hb FV6; go_frame) | (refine wpList_var rfl rfl rfl _ _ rfl v8 FV8 rfl rfl rfl ?_; intro w7 V8 hb _; replace V := ex_var V hb.out; replace V6 := ex_var V6 hb.out; replace A := Lib.hid (A.out.below hb.out); replace A6 := Lib.hid (A6.out.below hb.out); replace A8 := Lib.hid (A8.out.below hb.out); replace B := Lib.hid (bthen B.out hb.out); replace T := Lib.hid (T.out.below hb.out); clear hb; go_frame) | (go_at_call 12; refine (told_nil _).mono ?_; rintro e w8 ⟨rfl, hb⟩; replace V := ex_var V hb; replace V6 := ex_var V6 hb; replace V8 := ex_var V8 hb; replace A := Lib.hid (A.out.below hb); replace A6 := Lib.hid (A6.out.below hb); replace A8 := Lib.hid (A8.out.below hb); replace B := Lib.hid (bthen B.out hb); replace T := Lib.hid (T.out.below hb); clear hb; go_frame) | (refine wpList_load_var rfl _ rfl _ v8 rfl FV8 V8 ?_; go_frame) | (go_at_call 13; refine (FF.out v8 _ A8.out T.out).mono ?_; rintro e w9 ⟨z, rfl, FZ, hm, hb⟩; obtain ⟨nz, kz, rfl⟩ := hm.parts; have AZ := Lib.hid hm; replace V := ex_var V hb; replace V6 := ex_var V6 hb; replace A := Lib.hid (A.out.below hb); replace A6 := Lib.hid (A6.out.below hb); replace B := Lib.hid (bthen B.out hb); replace T := Lib.hid (T.out.below hb); clear hm hb FF; go_frame) | (refine wpList_var rfl rfl rfl _ _ rfl _ FZ rfl rfl rfl ?_; intro w10 VZ hb _; replace V := ex_var V hb.out; replace V6 := ex_var V6 hb.out; replace A := Lib.hid (A.out.below hb.out); replace A6 := Lib.hid (A6.out.below hb.out); replace AZ := Lib.hid (AZ.out.below hb.out); replace B := Lib.hid (bthen B.out hb.out); replace T := Lib.hid (T.out.below hb.out); clear hb FZ; go_frame))
  obtain ⟨n6, g, o, c, v1, rfl, hgl, hli, a1⟩ := list_cells A6.out
  obtain ⟨nu, ku, rfl⟩ := a1.parts
  have AU := Lib.hid a1
  obtain ⟨l0, l1, l2, l3⟩ := lies_cells hli
  obtain ⟨x0, x1, x2, x3⟩ := var_cells V
  obtain ⟨_, _, _, y3⟩ := var_cells V6
  obtain ⟨z0, z1, z2, z3⟩ := var_cells VZ
  have L4 := lt_of_heap V.out
  have L6 := lt_of_heap V6.out
  have LZ := lt_of_heap VZ.out
  have SC1 := Lib.hid (quiet_S (S := Sn w10) Sn.next (fun v hv => SS.out _ _ v (AU.out.below hv) (A.out.below hv) (T.out.below hv)))
  have SC2 := Lib.hid (quiet_S (S := Sn w10) Sn.next (fun v hv => SS.out _ _ v (AZ.out.below hv) (A.out.below hv) (T.out.below hv)))
  have e0 := Sn.cell l0 hgl
  have e1 := Sn.cell l1 hgl
  have e2 := Sn.cell l2 hgl
  have e3 := Sn.cell l3 hgl
  have e4 := Sn.cell x0 L4
  have e5 := Sn.cell x1 L4
  have e6 := Sn.cell x2 L4
  have e7 := Sn.cell x3 L4
  have e8 := Sn.cell y3 L6
  have e9 := Sn.cell z0 LZ
  have e10 := Sn.cell z1 LZ
  have e11 := Sn.cell z2 LZ
  have e12 := Sn.cell z3 LZ
  clear l0 l1 l2 l3 x0 x1 x2 x3 y3 z0 z1 z2 z3 hli a1 V V6 V8 VZ SS FV8 L4 L6 LZ hgl
  unfold jv at SC1 SC2
  haveI : Nonempty (Of (Sn w10)) := ⟨⟨_, Sn.start w10⟩⟩
  refine wp_region_S (Sn w10) (by kernel_rfl) (by kernel_rfl) (Sn.start _) ?_
  repeat (go_big_quiet_step (first | (go_at_call 11; first | (with_reducible exact SC1.out _) | (with_reducible exact SC2.out _))))
  refine wpQuiet_nil ?_
  rintro w11 ⟨u11, e⟩
  have B11 := Lib.hid (show Below w.heap.size w w11 by rw [e]; exact bthen B.out u11.ok)
  clear e u11 this SC1 SC2 e0 e1 e2 e3 e4 e5 e6 e7 e8 e9 e10 e11 e12
  go_wp2
  go_ret
  exact ⟨rfl, B11.out⟩
theorem Wrapped_true (S : List UInt8) (_ : S.length ≤ 140737488355328) (w : World) (hT : Tb w) : Calls Tryd.prog 5 #[.string (bs S)] w fun e w' => e = .returned (.bool true) ∧ Below w.heap.size w w' := by
  by_cases h : 7000 < S.length
  · exact wrapped_long S h w hT
  · cases hR : Js.parse S with
    | bad c p => exact wrapped_bad S (by omega) c p hR w hT
    | ok j =>
      rcases Js.parse_list (by omega) hR with ⟨h1, h2⟩ | ⟨p, q, h1, h2⟩
      · exact wrapped_on S (by omega) j hR h1 h2 w hT
      · exact wrapped_deep S (by omega) j hR p q h1 h2 w hT
end Go.Proofs.YthfnlnhehececaaDoor

/- What the condition of the rows gives a walk: the two tables of the decoder; a world that meets it. -/
namespace Go.Proofs.YthfnlnhehececaaDoor
open Go.Shelf Go.ChangeShapes Go.WideShapes Go.ChangeAt Go.RowKit Go.Lib

def laidL : List (String × DataW Unit) := [("unicode/utf8.acceptRanges", Rows.laid_unicode_utf8_acceptRanges), ("unicode/utf8.first", Rows.laid_unicode_utf8_first)]
theorem acc_eq : (Rows.laid_unicode_utf8_acceptRanges : DataW Unit) = Lib.acceptData := by kernel_rfl
theorem fst_eq : Rows.laid_unicode_utf8_first = Lib.firstData := Pinned.utf8First_eq
theorem tb_of {W : World} (h : laidMetH Tryd.prog laidL W) : Tb W := by
  rw [Go.MakeChecks.laidMetH_plain _ _ _ (by kernel_rfl)] at h
  have h1 : VarReads Tryd.prog W "unicode/utf8.acceptRanges" Rows.laid_unicode_utf8_acceptRanges := Lib.laidMet.reads h (.head _)
  have h2 : VarReads Tryd.prog W "unicode/utf8.first" Rows.laid_unicode_utf8_first := Lib.laidMet.reads h (.tail _ (.head _))
  rw [acc_eq] at h1
  rw [fst_eq] at h2
  exact utf8Tabs_of_readsT (U8Types.of196 k_lays196) ⟨by kernel_rfl, by kernel_rfl, by kernel_rfl, by kernel_rfl, by kernel_rfl, by kernel_rfl, by kernel_rfl⟩ h2 h1
/-- A world that meets it: the settled one, the two tables laid. -/
noncomputable def laidWorld (os : Os) : World :=
  let w0 := World.holding Tryd.prog os ⟨#[], #[], []⟩
  let put (h : Array Obj) (g : Nat) (cs : Array Value) : Array Obj := h.modify g fun
    | .cells _ t frozen => .cells cs t frozen
    | o => o
  let h1 := put w0.heap 0 (Lib.firstTab.map fun z => Value.int .u8 z).toArray
  let h2 := put h1 1 ((List.range 16).flatMap fun i => [Value.int .u8 (Lib.accLo i), Value.int .u8 (Lib.accHi i)]).toArray
  { w0 with heap := h2 }
theorem laidWorld_met (os : Os) (args : Array Value) : laidMetH Tryd.prog laidL ((laidWorld os).forCall (fun _ _ => 0) ⟨#[], args, []⟩).memory := by
  rw [Go.MakeChecks.laidMetH_plain _ _ _ (by kernel_rfl)]
  unfold laidL
  rw [acc_eq, fst_eq]
  exact (LaidIn.of_run (l := [("unicode/utf8.acceptRanges", Lib.acceptData), ("unicode/utf8.first", Lib.firstData)]) [0, 1] 8 (by kernel_rfl) (by kernel_rfl) (by kernel_rfl) (by kernel_rfl)).met
end Go.Proofs.YthfnlnhehececaaDoor

/- Whatever the text, JsonWrapped answers true (a value within a list is read as it is alone, and so it is under a name) and leaves its argument as it was. -/
namespace Go.Proofs.YthfnlnhehececaaDoor.jsonWrappedRow
open Go.ChangeShapes Go.WideShapes Go.ChangeAt Go.RowKit
open Go.ChangeMaps (open_string shut_string)

theorem own : ownKnob Tryd.prog.godebug = none := by kernel_rfl
set_option maxRecDepth 100000 in
theorem lifted (os : Os) (started : os.Started) (H : Type) (enc : TypeId × Value → H) :
    ReturnsInHanded {} Tryd.checked os 5 .any (fun w args => (Rows.jsonWrappedSpec.pre enc Tryd.prog Tryd.f5 [] false w args ∧ laidMetH Tryd.prog laidL w) ∧ sizedMet enc Tryd.prog Tryd.f5 (OpenSpec.ofChange Rows.jsonWrappedSpec) false w args)
      (Rows.jsonWrappedSpec.post enc Tryd.prog Tryd.f5 false true false false) := by
  refine returnsInHanded_of_change_and (C := Tryd.checked) (X := fun w _ => laidMetH Tryd.prog laidL w) (fun _ _ _ hh h => h.of_heap hh) own started (by kernel_rfl) Tryd.func5
    (ChangeSpec.witness_at (enc := enc) (C := Tryd.checked) (os := os) (X := fun w _ => laidMetH Tryd.prog laidL w) false (laidWorld os) #[.string .empty] 8 rfl (by kernel_rfl) (by kernel_rfl) (by kernel_rfl) (by kernel_rfl) (by kernel_rfl) (laidWorld_met os _)) ?_
  intro W base args ds gs before hval0 hW _ hsz0 hL _
  have hsz : (DataW.weightsEach Tryd.prog (Tryd.f5.params.toList ++ Rows.jsonWrappedSpec.plain.varTypes Tryd.prog) (ds ++ gs)).all (· ≤ reachBytes) = true := hsz0
  have hval : ∀ (j : Nat) t v, Tryd.f5.params[j]? = some t → args[j]? = some v → Value.okWide Tryd.prog W .any base t v := hval0
  clear hsz0
  have hW' := hW
  obtain ⟨p, q, hA0, hV, rfl, _, _⟩ := hW
  have hA : DataW.TrodAll enc Tryd.prog W 0 (fun _ => true) true Tryd.f5.params.toList args.toList ds p := hA0
  rw [Tryd.params5] at hA hval hsz
  obtain ⟨v0, vs0, d0, ds0, p0, q0, hargs, rfl, rfl, h0, r0⟩ := trodAll_cons hA
  obtain ⟨rfl, rfl, rfl⟩ := trodAll_nil r0
  obtain rfl : args = #[v0] := by cases args; simp_all
  obtain ⟨rfl, rfl⟩ := trodVars_none hV
  obtain ⟨x0, rfl, rfl, rfl, hmax0⟩ := open_string Tryd.underlying9 (hval 0 9 v0 rfl rfl) h0
  clear hA0 hval0
  simp only [List.append_nil] at hW'
  have hs0 : x0.data.toList.length ≤ 140737488355328 := by
    have h0 : x0.data.toList.length ≤ reachBytes := sized_string hsz (j := 0) (t := 9) rfl rfl
    have hrb : reachBytes < 2 ^ 47 := reachBytes_lt
    omega
  have hc := Wrapped_true x0.data.toList hs0 W (tb_of hL)
  rw [bs_self] at hc
  refine hc.mono fun e W' ⟨he, hb⟩ => ?_
  subst he
  exact ⟨_, rfl, _, _, _, [], [], [], hW', trodAll_mk1 (shut_bool Tryd.underlying4 _), (trodAll_cons_mk (shut_string Tryd.underlying9 hmax0) trodAll_mk0), rfl, hb.frame _, fun h => by cases h⟩

/-- ████ THE STATEMENT ████ -/
theorem proved : Rows.JsonWrappedSaid :=
  OpenClaim.holds_of_wide 5 Tryd.f5 rfl rfl rfl rfl rfl rfl rfl ⟨rfl, rfl, rfl, rfl, rfl⟩ rfl rfl rfl rfl rfl (by kernel_rfl) Tryd.func5 (by kernel_rfl)
    (of_decide_eq_true (by kernel_rfl)) (by unfold Func.isWrapper; first | (rw [if_pos (by decide +kernel)]; kernel_rfl) | (rw [if_neg (by decide +kernel)]; exact ⟨rfl, rfl⟩))
    (fun os started H enc _ => lifted os started H enc)
end Go.Proofs.YthfnlnhehececaaDoor.jsonWrappedRow

/- Whatever the text, JsonWrapped answers true (a value within a list is read as it is alone, and so it is under a name) and leaves its argument as it was. Package-level variables start as the program's text lays them: the statement JsonWrappedCardSaid, with no other condition. -/
namespace Go.Proofs.YthfnlnhehececaaDoor.jsonWrappedRow
open Go

/-- ████ THE TIED CARD ████ -/
theorem card : Rows.JsonWrappedCardSaid :=
  Claim7.holds_tied_plain_at .later [] [.data, .pinned] true (true, "512d351ee718dd2075c2f517bcc56aecf98ffe1458c0b1d4b2f5226a8b544816") true
    proved (fun _ h => by cases h) (by kernel_rfl) (fun _ h => by cases h) jsonWrapped_row_tie rfl ⟨rfl, rfl⟩ (by kernel_rfl) rfl
    (fun f fn hf hfn => by
      obtain rfl : f = 5 := Option.some.inj ((show Tryd.prog.funcNamed "storehouse/storehouselaw14.JsonWrapped" = some 5 by kernel_rfl).symm.trans hf) |>.symm
      obtain rfl : fn = Tryd.f5 := (Option.some.inj (Tryd.func5.symm.trans hfn)).symm
      exact ⟨by kernel_rfl, fun j t ht => by
        rw [Tryd.params5] at ht
        have hm : t ∈ [9] := by simpa using Array.mem_of_getElem? ht
        have hall : ([9].all fun u => !Tryd.prog.wantsStandIn u) = true := by kernel_rfl
        exact (show Tryd.prog.wantsStandIn t = false by simpa using List.all_eq_true.1 hall t hm)⟩)
    (by kernel_rfl)
end Go.Proofs.YthfnlnhehececaaDoor.jsonWrappedRow
