/- How many bytes stand ahead of one of a kind; the kinds that are handed on. -/
import Derived.Test.YtiodbkloecpdcaaUEsc
namespace Go.Proofs.Ytiodbkloecpdcaa
open Go.RowKit

attribute [local go_sem high] run_index_byte
theorem strAt_bs (S : List UInt8) (i : Nat) : strAt (bs S) i = S.getD i 0 := by rw [strAt_eq, bs_list]
/-- What is asked of a kind that is handed on: in a world. -/
structure Kind (g : FuncId) (lb : Array Value) (p : UInt8 → Bool) (w : World) : Prop where
  eg : ∀ args w, (callFunc g args).run Try.prog w = .ok (.enter g args) w
  at_ : ∀ c : UInt8, Calls Try.prog g (#[.int .u8 c.toNat] ++ lb) w fun e w' => e = .returned (.bool (p c)) ∧ w' = w
set_option maxHeartbeats 1000000 in
theorem lengthTo_any (S : List UInt8) (hS : S.length ≤ 4611686018427387904) (g : FuncId) (lb : Array Value) (p : UInt8 → Bool) (w : World) (hk : Kind g lb p w) : Calls Try.prog 34 #[.string (bs S), .func (.func g) #[] lb] w fun e w' => e = .returned (.int .i64 (Ur.len p S)) ∧ w' = w := by
  obtain ⟨eg, hp⟩ := hk
  obtain ⟨s, hs⟩ : ∃ s, s = bs S := ⟨_, rfl⟩
  have hss : s.size = S.length := by rw [hs, bs_size]
  have HST := Lib.hid (fun i => show strAt s i = S.getD i 0 by rw [hs]; exact strAt_bs S i)
  have HP := Lib.hid hp
  rw [← hs]
  clear hs hp
  go_enter Try.func34, Try.ntmps34
  go_wp2_with fail
  go_loopw [5, 8] (fun _ iv wr => ∃ j : Nat, j ≤ S.length ∧ iv = .int .i64 j ∧ Hid (∀ k, k < j → p (S.getD k 0) = false) ∧ wr = w) (fun _ iv _ => S.length - (intOf iv).toNat)
  case atStart => exact ⟨0, by omega, rfl, Lib.hid (fun k hk => by omega), rfl⟩
  case round =>
    obtain ⟨j, hj, rfl, hb, rfl⟩ := hrel
    by_cases hlt : j < S.length
    · have hc := HP.out (strAt s j)
      cases hpj : p (strAt s j) with
      | true =>
        rw [hpj] at hc
        have HC := Lib.hid hc
        have HPJ := Lib.hid hpj
        clear hc hpj
        go_wp2_with (go_at_fn g; refine HC.out.mono ?_; rintro e w' ⟨rfl, rfl⟩)
        go_ret
        refine ⟨?_, rfl⟩
        rw [Ur.len_hit p S j hlt (by rw [← HST.out]; exact HPJ.out) hb.out]
        rfl
      | false =>
        rw [hpj] at hc
        have HC := Lib.hid hc
        have HPJ := Lib.hid hpj
        clear hc hpj
        go_wp2_with (go_at_fn g; refine HC.out.mono ?_; rintro e w' ⟨rfl, rfl⟩)
        go_roundw
        case rel =>
          refine ⟨j + 1, by omega, by go_num, Lib.hid (fun k hk => ?_), trivial⟩
          by_cases e : k = j
          · rw [e, ← HST.out]; exact HPJ.out
          · exact hb.out k (by omega)
        case measure => simp [intOf]; omega
    · obtain rfl : j = S.length := by omega
      go_wp2_with fail
      go_ret
      refine ⟨?_, rfl⟩
      rw [Ur.len_miss p S hb.out]
      rfl
theorem kind_Strange (w : World) : Kind 35 #[] Ur.odd w := ⟨enters_of Try.func35 (by kernel_rfl) rfl, fun c => isStrange_any c w⟩
theorem kind_OfName (w : World) : Kind 41 #[] Ur.ofName w := ⟨enters_of Try.func41 (by kernel_rfl) rfl, fun c => isOfName_any c w⟩
theorem kind_Address1 (w : World) : Kind 69 #[] Ur.adr w := ⟨enters_of Try.func69 (by kernel_rfl) rfl, fun c => isAddress1_any c w⟩
theorem kind_Plain (w : World) : Kind 28 #[] Ur.fre w := ⟨enters_of Try.func28 (by kernel_rfl) rfl, fun c => isPlain_any c w⟩
theorem kind_PlainP (w : World) : Kind 29 #[] Ur.freP w := ⟨enters_of Try.func29 (by kernel_rfl) rfl, fun c => isPlainP_any c w⟩
theorem never_any (c : UInt8) (w : World) : Calls Try.prog 39 #[.int .u8 c.toNat] w fun e w' => e = .returned (.bool false) ∧ w' = w := by
  go_enter Try.func39, Try.ntmps39
  go_wp2_with fail
  go_ret
  exact ⟨rfl, rfl⟩
theorem kind_never (w : World) : Kind 39 #[] (fun _ => false) w := ⟨enters_of Try.func39 (by kernel_rfl) rfl, fun c => never_any c w⟩
theorem is1_any (b : Nat) (d : UInt8) (c : UInt8) (w : World) (hb : w.cell? ⟨b, 0, none⟩ = some (.int .u8 d.toNat)) : Calls Try.prog 63 #[.int .u8 c.toNat, .pointer (some ⟨b, 0, none⟩)] w fun e w' => e = .returned (.bool (c == d)) ∧ w' = w := by
  have hq : ((c.toNat : Int) == (d.toNat : Int)) = (c == d) := by
    rw [Bool.eq_iff_iff, beq_iff_eq, beq_iff_eq, ← UInt8.toNat_inj]
    omega
  generalize (c == d) = q at *
  go_enter Try.func63, Try.ntmps63
  go_wp2_with fail
  go_ret
  exact ⟨rfl, rfl⟩
theorem kind_is (b : Nat) (d : UInt8) (w : World) (hb : w.cell? ⟨b, 0, none⟩ = some (.int .u8 d.toNat)) : Kind 63 #[.pointer (some ⟨b, 0, none⟩)] (· == d) w := ⟨enters_of Try.func63 (by kernel_rfl) rfl, fun c => is1_any b d c w hb⟩
theorem is_any (d : UInt8) (w : World) : Calls Try.prog 37 #[.int .u8 d.toNat] w fun e w' => ∃ b, e = .returned (.func (.func 63) #[] #[.pointer (some ⟨b, 0, none⟩)]) ∧ w'.cell? ⟨b, 0, none⟩ = some (.int .u8 d.toNat) ∧ Below w.heap.size w w' ∧ w.heap.size ≤ b := by
  go_enter Try.func37, Try.ntmps37
  go_wp2_with fail
  go_ret
  refine ⟨_, rfl, ?_, (Below.refl _ _).alloc (Nat.le_refl _) _, Nat.le_refl _⟩
  rw [World.cell?_alloc_at _ _ _ _ rfl]; rfl
set_option maxHeartbeats 1000000 in
theorem every1_any (b : Nat) (g : FuncId) (lb : Array Value) (p : UInt8 → Bool) (c : UInt8) (w : World) (hk : Kind g lb p w) (hb : w.cell? ⟨b, 0, none⟩ = some (.func (.func g) #[] lb)) : Calls Try.prog 66 #[.int .u8 c.toNat, .pointer (some ⟨b, 0, none⟩)] w fun e w' => e = .returned (.bool (!p c)) ∧ w' = w := by
  obtain ⟨eg, hp⟩ := hk
  have HC := Lib.hid (hp c)
  clear hp
  generalize p c = q at *
  go_enter Try.func66, Try.ntmps66
  go_wp2_with (go_at_fn g; refine HC.out.mono ?_; rintro e w' ⟨rfl, rfl⟩)
  go_ret
  exact ⟨rfl, rfl⟩
theorem kind_every (b : Nat) (g : FuncId) (lb : Array Value) (p : UInt8 → Bool) (w : World) (hk : Kind g lb p w) (hb : w.cell? ⟨b, 0, none⟩ = some (.func (.func g) #[] lb)) : Kind 66 #[.pointer (some ⟨b, 0, none⟩)] (fun c => !p c) w := ⟨enters_of Try.func66 (by kernel_rfl) rfl, fun c => every1_any b g lb p c w hk hb⟩
set_option maxHeartbeats 1000000 in
theorem every_any (S : List UInt8) (hS : S.length ≤ 4611686018427387904) (g : FuncId) (lb : Array Value) (p : UInt8 → Bool) (hk : ∀ w, Kind g lb p w) (w : World) : Calls Try.prog 40 #[.string (bs S), .func (.func g) #[] lb] w fun e w' => e = .returned (.bool (S.all p)) ∧ Below w.heap.size w w' := by
  have HC := Lib.hid (fun (v : World) (b : Nat) (hb : v.cell? ⟨b, 0, none⟩ = some (.func (.func g) #[] lb)) => lengthTo_any S hS 66 #[.pointer (some ⟨b, 0, none⟩)] (fun c => !p c) v (kind_every b g lb p v (hk v) hb))
  have hall := Ur.len_all p S
  have hq : (((Ur.len (fun c => !p c) S : Nat) : Int) == ((S.length : Nat) : Int)) = S.all p := by
    rw [← hall, Bool.eq_iff_iff, beq_iff_eq, beq_iff_eq]; omega
  obtain ⟨s, hs⟩ : ∃ s, s = bs S := ⟨_, rfl⟩
  have hss : s.size = S.length := by rw [hs, bs_size]
  rw [← hs] at HC ⊢
  generalize Ur.len (fun c => !p c) S = k at *
  generalize S.all p = q at *
  clear hs hall
  have hc0 : (w.alloc (.cells #[.func (.func g) #[] lb] 50)).cell? ⟨w.heap.size, 0, none⟩ = some (.func (.func g) #[] lb) := by rw [World.cell?_alloc_at _ _ _ _ rfl]; rfl
  go_enter Try.func40, Try.ntmps40
  go_wp2_with (go_at_call 34; refine (HC.out _ _ hc0).mono ?_; rintro e w' ⟨rfl, rfl⟩)
  go_ret
  exact ⟨rfl, (Below.refl _ _).alloc (Nat.le_refl _) _⟩
end Go.Proofs.Ytiodbkloecpdcaa
