/- What Apply answers, the program's and the document's own, whatever is handed in. -/
import Derived.Test.YtnaeekjocaecmaaMRefQ
import Derived.Test.YtnaeekjocaecmaaMLent3
import Derived.Test.YtnaeekjocaecmaaMIs
namespace Go.Proofs.Ytnaeekjocaecmaa
open Go.RowKit

theorem first_of {p : Nat → Prop} (k : Nat) (hk : p k) : ∃ m, m ≤ k ∧ p m ∧ ∀ j, j < m → ¬ p j := by
  induction k using Nat.strongRecOn with
  | ind k ih =>
    by_cases h : ∃ j, j < k ∧ p j
    · obtain ⟨j, hj, hp⟩ := h
      obtain ⟨m, hm, h1, h2⟩ := ih j hj hp
      exact ⟨m, by omega, h1, h2⟩
    · exact ⟨k, Nat.le_refl _, hk, fun j hj hp => h ⟨j, hj, hp⟩⟩
/-- Texts that a slice shows. -/
def TX (s0 : Option Addr) (n : Nat) (f : Nat → ByteArray) (w : World) : Prop := 0 < n → ∃ b o, s0 = some ⟨b, o, none⟩ ∧ b < w.heap.size ∧ Texts b o n f w
theorem TX.below {s0 : Option Addr} {n : Nat} {f : Nat → ByteArray} {w w' : World} (h : TX s0 n f w) (hb : Below w.heap.size w w') : TX s0 n f w' := fun h0 => by
  obtain ⟨b, o, rfl, hl, ht⟩ := h h0
  exact ⟨b, o, rfl, Nat.lt_of_lt_of_le hl hb.size, ht.keep (hb.block b hl)⟩
/-- The program's answer. -/
def OutP (code n : Nat) (F : Nat → ByteArray) (a : Option Addr) (pl : Nat) (E : Value) (w : World) : Prop :=
  (code = 0 ∧ pl = n ∧ E = .nilIface ∧ ∃ g, a = some ⟨g, 0, none⟩ ∧ ColT g n F w) ∨ (code ≠ 0 ∧ pl = 0 ∧ ∃ g, E = faultV g ∧ FaultAt g code 0 w)
theorem OutP.below {code n : Nat} {F : Nat → ByteArray} {a : Option Addr} {pl : Nat} {E : Value} {w w' : World} (h : OutP code n F a pl E w) (hb : Below w.heap.size w w') : OutP code n F a pl E w' := by
  rcases h with ⟨h1, h2, h3, g, h4, h5⟩ | ⟨h1, h2, g, h3, h4⟩
  · exact .inl ⟨h1, h2, h3, g, h4, h5.below hb⟩
  · exact .inr ⟨h1, h2, g, h3, h4.keep (hb.block g h4.lt)⟩
/-- The document's own. -/
def OutR (code n : Nat) (F : Nat → ByteArray) (a : Option Addr) (pl : Nat) (w : World) : Prop :=
  (code = 0 ∧ pl = n ∧ ∃ g, a = some ⟨g, 0, none⟩ ∧ ColT g n F w) ∨ (code ≠ 0 ∧ pl = 0)
theorem OutR.below {code n : Nat} {F : Nat → ByteArray} {a : Option Addr} {pl : Nat} {w w' : World} (h : OutR code n F a pl w) (hb : Below w.heap.size w w') : OutR code n F a pl w' := by
  rcases h with ⟨h1, h2, g, h4, h5⟩ | ⟨h1, h2⟩
  · exact .inl ⟨h1, h2, g, h4, h5.below hb⟩
  · exact .inr ⟨h1, h2⟩
theorem is_out {code n : Nat} {F : Nat → ByteArray} {a : Option Addr} {pl : Nat} {E : Value} {w : World} (h : OutP code n F a pl E w) : Calls Try.prog 13 #[E, .int .i64 code] w fun e w' => e = .returned (.bool true) ∧ w = w' := by
  rcases h with ⟨rfl, _, rfl, _⟩ | ⟨h1, _, g, rfl, h4⟩
  · exact is_none w
  · exact is_fault g code (by omega) w h4
/-- Both sides of Apply at one and the same input. -/
structure Both (r c : Int) (len : Nat) (l : List UInt8) (n : Nat) (f : Nat → ByteArray) (code m : Nat) (F : Nat → ByteArray) : Prop where
  p : ∀ a0 cap s0 capn w, Hand a0 len cap l w → TX s0 n f w → Calls Try.prog 31 #[.agg #[.int .i64 r, .int .i64 c, .slice a0 len cap], .slice s0 n capn] w fun e w' => ∃ a pl pc E, e = .returned (.tuple #[.slice a pl pc, E]) ∧ OutP code m F a pl E w' ∧ Below w.heap.size w w'
  q : ∀ a0 cap s0 capn w, Hand a0 len cap l w → TX s0 n f w → Calls Try.prog 32 #[.agg #[.int .i64 r, .int .i64 c, .slice a0 len cap], .slice s0 n capn] w fun e w' => ∃ a pl pc, e = .returned (.tuple #[.slice a pl pc, .int .i64 code]) ∧ OutR code m F a pl w' ∧ Below w.heap.size w w'
theorem both_any (r c : Int) (len : Nat) (l : List UInt8) (n : Nat) (f : Nat → ByteArray) (hf : ∀ j, j < n → (f j).size ≤ 500) : ∃ code m F, Both r c len l n f code m F ∧ m ≤ 255 := by
  by_cases hr : rightB r c len = true
  case neg =>
    have hr : rightB r c len = false := by simpa using hr
    refine ⟨1, 0, fun _ => .empty, ⟨fun a0 cap s0 capn w hH hT => ?_, fun a0 cap s0 capn w hH hT => ?_⟩, by omega⟩
    · refine (Apply_bad r c a0 len cap s0 n capn hr w).mono ?_
      rintro e w' ⟨g, _, rfl, hF, hb⟩
      exact ⟨none, 0, 0, _, rfl, .inr ⟨by omega, rfl, g, rfl, hF⟩, hb⟩
    · refine (rApply_bad r c a0 len cap s0 n capn hr w).mono ?_
      rintro e w' ⟨rfl, hb⟩
      exact ⟨none, 0, 0, rfl, .inr ⟨by omega, rfl⟩, hb⟩
  obtain ⟨⟨h1, h2⟩, ⟨h3, h4⟩, h5⟩ := right_parts hr
  obtain ⟨rn, rfl⟩ := Int.eq_ofNat_of_zero_le (show 0 ≤ r by omega)
  obtain ⟨cn, rfl⟩ := Int.eq_ofNat_of_zero_le (show 0 ≤ c by omega)
  have good : ∀ a0 cap w, Hand a0 len cap l w → ∃ b o, a0 = some ⟨b, o, none⟩ ∧ b < w.heap.size ∧ len ≤ cap ∧ rn * cn = len ∧ Src b o (matOf cn l) rn cn w := fun a0 cap w hH => by
    obtain ⟨rn', cn', b, o, G⟩ := hH.good hr
    obtain rfl : rn = rn' := by have := G.er; omega
    obtain rfl : cn = cn' := by have := G.ec; omega
    exact ⟨b, o, G.ea, G.lt, G.cp, G.ln, G.src⟩
  by_cases hn : n = cn
  case neg =>
    refine ⟨19, 0, fun _ => .empty, ⟨fun a0 cap s0 capn w hH hT => ?_, fun a0 cap s0 capn w hH hT => ?_⟩, by omega⟩
    · obtain ⟨b, o, rfl, _⟩ := good a0 cap w hH
      refine (Apply_len rn cn b o len cap s0 n capn hr hn w).mono ?_
      rintro e w' ⟨g, _, rfl, hF, hb⟩
      exact ⟨none, 0, 0, _, rfl, .inr ⟨by omega, rfl, g, rfl, hF⟩, hb⟩
    · refine (rApply_len rn cn a0 len cap s0 n capn hr hn w).mono ?_
      rintro e w' ⟨rfl, hb⟩
      exact ⟨none, 0, 0, rfl, .inr ⟨by omega, rfl⟩, hb⟩
  subst hn
  by_cases hk : ∃ k, k < n ∧ (f k).size ≠ (f 0).size
  case pos =>
    obtain ⟨k', hk'1, hk'2⟩ := hk
    obtain ⟨k, hk0, hk2, hk3'⟩ := first_of (p := fun k => (f k).size ≠ (f 0).size) k' hk'2
    have hk1 : k < n := by omega
    have hk3 : ∀ j, j < k → (f j).size = (f 0).size := fun j hj => by
      by_cases e : (f j).size = (f 0).size
      · exact e
      · exact absurd e (hk3' j hj)
    refine ⟨19, 0, fun _ => .empty, ⟨fun a0 cap s0 capn w hH hT => ?_, fun a0 cap s0 capn w hH hT => ?_⟩, by omega⟩
    · obtain ⟨b, o, rfl, _⟩ := good a0 cap w hH
      obtain ⟨hb, ho, rfl, hl, ht⟩ := hT (by omega)
      refine (Apply_one rn n b o len cap hb ho capn k f hr (by omega) hk1 hk2 hk3 w ht hl).mono ?_
      rintro e w' ⟨g, _, rfl, hF, hb⟩
      exact ⟨none, 0, 0, _, rfl, .inr ⟨by omega, rfl, g, rfl, hF⟩, hb⟩
    · obtain ⟨hb, ho, rfl, hl, ht⟩ := hT (by omega)
      refine (rApply_one rn n a0 len cap hb ho capn k f hr (by omega) hk1 hk2 hk3 w ht hl).mono ?_
      rintro e w' ⟨rfl, hb⟩
      exact ⟨none, 0, 0, rfl, .inr ⟨by omega, rfl⟩, hb⟩
  case neg =>
    have hm : ∀ j, j < n → (f j).size = (f 0).size := fun j hj => by
      by_cases e : (f j).size = (f 0).size
      · exact e
      · exact absurd ⟨j, hj, e⟩ hk
    have hmm : (f 0).size ≤ 500 := hf 0 (by omega)
    refine ⟨0, rn, fun i => txt (mm n (matOf n l) (fun j => strAt (f j)) i) (f 0).size, ⟨fun a0 cap s0 capn w hH hT => ?_, fun a0 cap s0 capn w hH hT => ?_⟩, by omega⟩
    · obtain ⟨b, o, rfl, hbl, hcp, hln, hS⟩ := good a0 cap w hH
      obtain ⟨hb, ho, rfl, hl, ht⟩ := hT (by omega)
      refine (Apply_good rn n b o len cap hb ho capn (f 0).size (matOf n l) f (by omega) (by omega) (by omega) (by omega) hln hcp (by omega) hm w hS hbl ht hl).mono ?_
      rintro e w' ⟨h, _, rfl, hs, hb⟩
      exact ⟨_, _, _, _, rfl, .inl ⟨rfl, rfl, rfl, h, rfl, hs.colT⟩, hb⟩
    · obtain ⟨b, o, rfl, hbl, hcp, hln, hS⟩ := good a0 cap w hH
      obtain ⟨hb, ho, rfl, hl, ht⟩ := hT (by omega)
      refine (rApply_good rn n b o len cap hb ho capn (f 0).size (matOf n l) f (by omega) (by omega) (by omega) (by omega) hln (by omega) hm w hS hbl ht hl).mono ?_
      rintro e w' ⟨h, cap2, rfl, hs, hb⟩
      exact ⟨_, _, _, rfl, .inl ⟨rfl, rfl, h, rfl, hs⟩, hb⟩
/-- append of any texts to nothing. -/
theorem wpList_clone_strs {w : World} {ops : Array Oper} {rest : List Oper} {o : Oper} {a : Act} {Q : Exit → Act → World → Prop} (hgd : o.guard = none) (s x : Operand) (ho : o.op = .call { callee := .builtin .append, args := #[s, x], argTypes := #[51, 51] })
    (hs : a.eval s = .slice none 0 0) (s0 : Option Addr) (n capn : Nat) (f : Nat → ByteArray) (hx : a.eval x = .slice s0 n capn) (hz : s0 = none → capn = 0) (hn : n ≤ 8796093022208) (hT : TX s0 n f w)
    (h : ∀ a1 cap1 w', Hid (TX a1 n f w') → Hid (Below w.heap.size w w') → wpList Try.prog ops Q rest (a.put o.dst (.slice a1 n cap1)) w') : wpList Try.prog ops Q (o :: rest) a w := by
  by_cases h0 : 0 < n
  · obtain ⟨b, of, rfl, hl, ht⟩ := hT h0
    refine wpList_plain hgd fun _ hK => ?_
    obtain ⟨i0, hi, hz0, hz1, hz2⟩ := ginfo_parts infoStr
    refine wp_append_own w s x 51 ho w.heap.size 9 i0 (.string .empty) 1 16 Try.underlying51 hi hz0 hz1 hz2 rfl (by decide) (.slice none 0 0) 0 [] hs (World.ownsRow_nil _ _ _ _) ⟨b, of, none⟩ n capn ((List.range n).map fun j => .string (f j)) hx (by simp) ?_ ?_ (by unfold maxLen; omega) (by omega) (Nat.le_refl _) fun v' w' h2 h3 _ => hK _ _ ?_
    · intro j u hu
      have hj : j < n := by have := (List.getElem?_eq_some_iff.1 hu).1; simpa using this
      rw [List.getElem?_map, List.getElem?_range hj] at hu
      rw [Addr.add_mid]
      exact (ht j hj).trans hu
    · intro u hu
      obtain ⟨x, _, rfl⟩ := List.mem_map.1 hu
      rfl
    · have hl2 := World.ownsRow.lt h2
      rcases h2.2 with ⟨_, h0'⟩ | ⟨g, cap, cur, hv, _, _, hn', _, _, _⟩
      · omega
      · subst hv
        rw [Nat.zero_add] at h2 ⊢
        have hg := hl2 g rfl
        refine h _ _ w' (Lib.hid fun _ => ⟨g, 0, rfl, hg.2, fun j hj => ?_⟩) (Lib.hid ⟨h3.os, h3.tape, h3.output, h3.size, fun k hk => h3.block k hk (fun e => by cases e)⟩)
        have := World.ownsRow.cells h2 (g := g) rfl j (.string (f j)) (by rw [List.nil_append, List.getElem?_map, List.getElem?_range hj]; rfl)
        rw [Addr.add_mid] at this; exact this
  · obtain rfl : n = 0 := by omega
    exact wpList_nil_appendT hgd s x ho hs s0 capn hx hz (h none 0 w (Lib.hid fun h => by omega) (Lib.hid (Below.refl _ _)))
end Go.Proofs.Ytnaeekjocaecmaa
