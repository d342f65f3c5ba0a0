/- The walks of MD5's block: the constants, the turn. -/
import Derived.Test.YtdimkgidaioolaaTurn2
namespace Go.Proofs.Ytdimkgidaioolaa
open Go.RowKit

def intv (n : Nat) : Value := .int .i64 (n : Int)
def nils (n : Nat) : List Value := List.replicate n (.int .i64 0)
theorem length_nils (n : Nat) : (nils n).length = n := by simp [nils]
theorem intv_ones (ws : List Nat) : ∀ v ∈ ws.map intv, v.oneCell' = true := fun v hv => by obtain ⟨x, _, rfl⟩ := List.mem_map.1 hv; rfl
/-- The four slots hold what i rounds have made of the words. -/
def RoundsAt5 (ws : List UInt32) (s : Dig.Four) (k : Nat) (a b c d : Value) : Prop :=
  ∃ r : Dig.Four, r = Dig.roundsTo5 ws s k ∧ a = .int .u32 r.a.toNat ∧ b = .int .u32 r.b.toNat ∧ c = .int .u32 r.c.toNat ∧ d = .int .u32 r.d.toNat
theorem rounds_start5 (ws : List UInt32) (s : Dig.Four) : RoundsAt5 ws s 0 (.int .u32 s.a.toNat) (.int .u32 s.b.toNat) (.int .u32 s.c.toNat) (.int .u32 s.d.toNat) :=
  ⟨s, (Dig.roundsTo5_zero ws s).symm, rfl, rfl, rfl, rfl⟩
theorem rounds_step5 {ws : List UInt32} {s r : Dig.Four} {i q n j : Nat} {x y : UInt32} {a b c d : Value} (hr : r = Dig.roundsTo5 ws s i) (hq : i / 16 = q) (hj : Dig.word5 i = j) (hn : Dig.turns5.getD (q * 4 + i % 4) 0 = n) (hx : x = Dig.k5.getD i 0) (hy : y = ws.getD j 0)
    (ha : a = .int .u32 r.d.toNat) (hb : b = .int .u32 (Dig.ad r.b (Dig.rotl (Dig.ad (Dig.mix5 q r) (Dig.ad (Dig.ad r.a x) y)) n)).toNat) (hc : c = .int .u32 r.b.toNat) (hd : d = .int .u32 r.c.toNat) :
    RoundsAt5 ws s (i + 1) a b c d := by
  subst hq hj hn hx hy hr ha hb hc hd
  exact ⟨Dig.round5 (i / 16) (Dig.turns5.getD (i / 16 * 4 + i % 4) 0) (Dig.k5.getD i 0) (ws.getD (Dig.word5 i) 0) (Dig.roundsTo5 ws s i), (Dig.roundsTo5_succ ws s i).symm, rfl, rfl, rfl, rfl⟩

theorem rn_nat {n : Nat} (h : n < 32) : rn (n : Int) = n := by unfold rn; omega

attribute [local go_sem] go_add go_add' go_xor go_and go_or go_not go_not' u32_signed
end Go.Proofs.Ytdimkgidaioolaa
