/- The program writes a byte of a text. -/
import Derived.Test.YthfnlnhehececaaDoorNWr
namespace Go.Proofs.YthfnlnhehececaaDoor
open Go Go.RowKit

namespace Js
def hx (n : Nat) : UInt8 := if n < 10 then UInt8.ofNat (48 + n) else UInt8.ofNat (87 + n)
/-- How a byte of a text is written. -/
def ec (c : UInt8) : List UInt8 :=
  if c = 34 then [92, 34] else if c = 92 then [92, 92] else if c = 10 then [92, 110] else if c = 13 then [92, 114] else if c = 9 then [92, 116]
  else if c.toNat < 32 then [92, 117, 48, 48, hx (c.toNat / 16), hx (c.toNat % 16)] else [c]
end Js
set_option maxRecDepth 100000 in
set_option maxHeartbeats 2000000 in
theorem inQuotes_plain (c : UInt8) (h1 : ¬ c = 34) (h2 : ¬ c = 92) (h3 : ¬ c = 10) (h4 : ¬ c = 13) (h5 : ¬ c = 9) (h6 : ¬ c.toNat < 32) (w : World) : Calls Tryd.prog 77 #[.int .u8 c.toNat] w fun e w' => e = .returned (.string (bs [c])) ∧ Below w.heap.size w w' := by
  obtain ⟨n, hn⟩ : ∃ n, n = c.toNat := ⟨_, rfl⟩
  have t : ∀ d : UInt8, ¬ c = d → ((n : Int) == (d.toNat : Int)) = false := fun d hd => by
    rw [hn]
    simp only [beq_eq_false_iff_ne, ne_eq]
    intro h
    exact hd (UInt8.toNat_inj.1 (by omega))
  have t1 := t 34 h1
  have t2 := t 92 h2
  have t3 := t 10 h3
  have t4 := t 13 h4
  have t5 := t 9 h5
  rw [show ((34 : UInt8).toNat : Int) = 34 from rfl] at t1
  rw [show ((92 : UInt8).toNat : Int) = 92 from rfl] at t2
  rw [show ((10 : UInt8).toNat : Int) = 10 from rfl] at t3
  rw [show ((13 : UInt8).toNat : Int) = 13 from rfl] at t4
  rw [show ((9 : UInt8).toNat : Int) = 9 from rfl] at t5
  have hlt : ¬ (n : Int) < 32 := by omega
  have HB := Lib.hid (show u8v c = .int .u8 n by rw [hn]; rfl)
  rw [← hn]
  have HCELL := Lib.hid (show ∀ j u, ([c].map u8v)[j]? = some u → (w.alloc (.cells #[.int .u8 (n : Int)] 5)).cell? ⟨w.heap.size, 0 + j, none⟩ = some u from fun j u hj => by
    have hg := heap_alloc_new w (.cells #[.int .u8 (n : Int)] 5)
    cases j with
    | zero =>
      obtain rfl : u = .int .u8 (n : Int) := by
        have := Option.some.inj hj
        rw [← this, HB.out]
      rw [cell_of_list (cs := [.int .u8 (n : Int)]) hg]; rfl
    | succ j => simp at hj)
  clear t h1 h2 h3 h4 h5 h6 hn
  go_enter Tryd.func77, Tryd.ntmps77
  go_wp2_with (first | (refine wpList_bytes_string rfl 69 9 _ rfl 5 w.heap.size 0 1 1 rfl [c] rfl Tryd.underlying69 Tryd.underlying5 Tryd.underlying9 HCELL.out ?_; go_frame))
  go_ret
  exact ⟨by rw [← bs_eq]; rfl, (Below.refl _ _).alloc (Nat.le_refl _) _⟩
theorem hex_at (v : World) (n : Nat) (hn : n < 16) : (Instr.index 9 (.string ⟨#[48, 49, 50, 51, 52, 53, 54, 55, 56, 57, 97, 98, 99, 100, 101, 102]⟩) (.int .u8 (n : Int))).run Tryd.prog v = .ok (.int .u8 ((Js.hx n).toNat : Int)) v := by
  rw [run_index_byte v 9 ⟨#[48, 49, 50, 51, 52, 53, 54, 55, 56, 57, 97, 98, 99, 100, 101, 102]⟩ .u8 n Tryd.underlying9 (show n < ByteArray.size ⟨#[48, 49, 50, 51, 52, 53, 54, 55, 56, 57, 97, 98, 99, 100, 101, 102]⟩ from hn)]
  rw [strAt_eq]
  have key : ∀ n : Fin 16, ([48, 49, 50, 51, 52, 53, 54, 55, 56, 57, 97, 98, 99, 100, 101, 102] : List UInt8).getD n.1 0 = Js.hx n.1 := by decide
  have := key ⟨n, hn⟩
  rw [show (⟨#[48, 49, 50, 51, 52, 53, 54, 55, 56, 57, 97, 98, 99, 100, 101, 102]⟩ : ByteArray).data.toList = [48, 49, 50, 51, 52, 53, 54, 55, 56, 57, 97, 98, 99, 100, 101, 102] from rfl, this]
set_option maxRecDepth 100000 in
set_option maxHeartbeats 2000000 in
theorem inQuotes_ctl (n : Nat) (h3 : ¬ n = 10) (h4 : ¬ n = 13) (h5 : ¬ n = 9) (h6 : n < 32) (w : World) : Calls Tryd.prog 77 #[.int .u8 (n : Int)] w fun e w' => e = .returned (.string (bs [92, 117, 48, 48, Js.hx (n / 16), Js.hx (n % 16)])) ∧ Below w.heap.size w w' := by
  have t1 : ((n : Int) == 34) = false := by simp only [beq_eq_false_iff_ne]; omega
  have t2 : ((n : Int) == 92) = false := by simp only [beq_eq_false_iff_ne]; omega
  have t3 : ((n : Int) == 10) = false := by simp only [beq_eq_false_iff_ne]; omega
  have t4 : ((n : Int) == 13) = false := by simp only [beq_eq_false_iff_ne]; omega
  have t5 : ((n : Int) == 9) = false := by simp only [beq_eq_false_iff_ne]; omega
  have hlt : (n : Int) < 32 := by omega
  obtain ⟨a, ha⟩ : ∃ a, a = Js.hx (n / 16) := ⟨_, rfl⟩
  obtain ⟨b, hb⟩ : ∃ b, b = Js.hx (n % 16) := ⟨_, rfl⟩
  have RI1 : ∀ v : World, (Instr.index 9 (.string ⟨#[48, 49, 50, 51, 52, 53, 54, 55, 56, 57, 97, 98, 99, 100, 101, 102]⟩) (.int .u8 ((n : Int) / 16))).run Tryd.prog v = .ok (.int .u8 (a.toNat : Int)) v := fun v => by
    rw [ha]; exact hex_at v (n / 16) (by omega)
  have RI2 : ∀ v : World, (Instr.index 9 (.string ⟨#[48, 49, 50, 51, 52, 53, 54, 55, 56, 57, 97, 98, 99, 100, 101, 102]⟩) (.int .u8 ((n : Int) % 16))).run Tryd.prog v = .ok (.int .u8 (b.toNat : Int)) v := fun v => by
    rw [hb]; exact hex_at v (n % 16) (by omega)
  rw [← ha, ← hb]
  have HCV : (convert 69 9 (.slice (some ⟨w.heap.size, 0, none⟩) 2 2)).run Tryd.prog (w.alloc (.cells #[.int .u8 (a.toNat : Int), .int .u8 (b.toNat : Int)] 5)).drew = .ok (.string ⟨#[a, b]⟩) (w.alloc (.cells #[.int .u8 (a.toNat : Int), .int .u8 (b.toNat : Int)] 5)).drew :=
    run_bytes_string _ 69 9 5 w.heap.size 0 2 2 [a, b] rfl Tryd.underlying69 Tryd.underlying5 Tryd.underlying9 (range_of_list (by exact heap_alloc_new w _))
  have HAD : ∀ v : World, (Op.stringOp .add ⟨#[92, 117, 48, 48]⟩ ⟨#[a, b]⟩).run Tryd.prog v = .ok (.string ⟨#[92, 117, 48, 48, a, b]⟩) v := fun v => by
    have := add_bs [92, 117, 48, 48] [a, b] (by simp) v
    rwa [← bs_eq, ← bs_eq, ← bs_eq] at this
  clear h3 h4 h5 ha hb
  go_enter Tryd.func77, Tryd.ntmps77
  go_wp2_with fail
  go_region
  go_wp2_with fail
  go_ret
  exact ⟨by rw [← bs_eq]; rfl, ((Below.refl _ _).alloc (Nat.le_refl _) _).drew⟩
set_option maxRecDepth 100000 in
theorem inQuotes_five (w : World) : (Calls Tryd.prog 77 #[.int .u8 34] w fun e w' => e = .returned (.string (bs [92, 34])) ∧ Below w.heap.size w w') ∧ (Calls Tryd.prog 77 #[.int .u8 92] w fun e w' => e = .returned (.string (bs [92, 92])) ∧ Below w.heap.size w w') ∧
    (Calls Tryd.prog 77 #[.int .u8 10] w fun e w' => e = .returned (.string (bs [92, 110])) ∧ Below w.heap.size w w') ∧ (Calls Tryd.prog 77 #[.int .u8 13] w fun e w' => e = .returned (.string (bs [92, 114])) ∧ Below w.heap.size w w') ∧ (Calls Tryd.prog 77 #[.int .u8 9] w fun e w' => e = .returned (.string (bs [92, 116])) ∧ Below w.heap.size w w') := by
  refine ⟨?_, ?_, ?_, ?_, ?_⟩
  all_goals
    go_enter Tryd.func77, Tryd.ntmps77
    go_wp2_with fail
    go_ret
    exact ⟨by rw [← bs_eq]; rfl, Below.refl _ _⟩
theorem inQuotes_any (c : UInt8) (w : World) : Calls Tryd.prog 77 #[.int .u8 (c.toNat : Int)] w fun e w' => e = .returned (.string (bs (Js.ec c))) ∧ Below w.heap.size w w' := by
  obtain ⟨a1, a2, a3, a4, a5⟩ := inQuotes_five w
  unfold Js.ec
  by_cases h1 : c = 34
  · rw [if_pos h1, h1]; exact a1
  rw [if_neg h1]
  by_cases h2 : c = 92
  · rw [if_pos h2, h2]; exact a2
  rw [if_neg h2]
  by_cases h3 : c = 10
  · rw [if_pos h3, h3]; exact a3
  rw [if_neg h3]
  by_cases h4 : c = 13
  · rw [if_pos h4, h4]; exact a4
  rw [if_neg h4]
  by_cases h5 : c = 9
  · rw [if_pos h5, h5]; exact a5
  rw [if_neg h5]
  have ne : ∀ d : UInt8, ¬ c = d → ¬ c.toNat = d.toNat := fun d hd h => hd (UInt8.toNat_inj.1 h)
  by_cases h6 : c.toNat < 32
  · rw [if_pos h6]
    exact inQuotes_ctl c.toNat (ne 10 h3) (ne 13 h4) (ne 9 h5) h6 w
  · rw [if_neg h6]
    exact inQuotes_plain c h1 h2 h3 h4 h5 h6 w
end Go.Proofs.YthfnlnhehececaaDoor
