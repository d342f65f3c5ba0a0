/- The walk of MatrixMakes, whatever it is asked. -/
import Derived.Test.YtnaeekjocaecmaaMMakes0a
import Derived.Test.YtnaeekjocaecmaaMMakes0b
import Derived.Test.YtnaeekjocaecmaaMMakes1a
import Derived.Test.YtnaeekjocaecmaaMMakes1b
import Derived.Test.YtnaeekjocaecmaaMMakes2a
import Derived.Test.YtnaeekjocaecmaaMMakes2b
import Derived.Test.YtnaeekjocaecmaaMMakes3a
import Derived.Test.YtnaeekjocaecmaaMMakes3b
import Derived.Test.YtnaeekjocaecmaaMMakes4a
import Derived.Test.YtnaeekjocaecmaaMMakes4b
namespace Go.Proofs.Ytnaeekjocaecmaa
open Go.RowKit

/-- The cases of rows and columns. -/
theorem rc_cases {P : Int → Int → Prop}
    (ha : ∀ r c : Int, r < 1 → -9223372036854775808 ≤ r ∧ r ≤ 9223372036854775807 → -9223372036854775808 ≤ c ∧ c ≤ 9223372036854775807 → P r c)
    (hb : ∀ r c : Int, 255 < r → -9223372036854775808 ≤ r ∧ r ≤ 9223372036854775807 → -9223372036854775808 ≤ c ∧ c ≤ 9223372036854775807 → P r c)
    (hc : ∀ r c : Int, 1 ≤ r → r ≤ 255 → c < 1 → -9223372036854775808 ≤ r ∧ r ≤ 9223372036854775807 → -9223372036854775808 ≤ c ∧ c ≤ 9223372036854775807 → P r c)
    (hd : ∀ r c : Int, 1 ≤ r → r ≤ 255 → 255 < c → -9223372036854775808 ≤ r ∧ r ≤ 9223372036854775807 → -9223372036854775808 ≤ c ∧ c ≤ 9223372036854775807 → P r c)
    (he : ∀ r c : Int, 1 ≤ r → r ≤ 255 → 1 ≤ c → c ≤ 255 → 256 < r + c → -9223372036854775808 ≤ r ∧ r ≤ 9223372036854775807 → -9223372036854775808 ≤ c ∧ c ≤ 9223372036854775807 → P r c)
    (hf : ∀ r c : Nat, 1 ≤ r → r ≤ 40 → 1 ≤ c → c ≤ 40 → P r c)
    (hg : ∀ r c : Nat, 1 ≤ r → r ≤ 40 → 41 ≤ c → c ≤ 255 → r + c ≤ 256 → P r c)
    (hh : ∀ r c : Nat, 41 ≤ r → r ≤ 255 → 1 ≤ c → c ≤ 255 → r + c ≤ 256 → P r c)
    (r c : Int) (hr : -9223372036854775808 ≤ r ∧ r ≤ 9223372036854775807) (hc2 : -9223372036854775808 ≤ c ∧ c ≤ 9223372036854775807) : P r c := by
  by_cases h1 : r < 1
  · exact ha r c h1 hr hc2
  by_cases h2 : 255 < r
  · exact hb r c h2 hr hc2
  by_cases h3 : c < 1
  · exact hc r c (by omega) (by omega) h3 hr hc2
  by_cases h4 : 255 < c
  · exact hd r c (by omega) (by omega) h4 hr hc2
  by_cases h5 : 256 < r + c
  · exact he r c (by omega) (by omega) (by omega) (by omega) h5 hr hc2
  obtain ⟨rn, rfl⟩ := Int.eq_ofNat_of_zero_le (show 0 ≤ r by omega)
  obtain ⟨cn, rfl⟩ := Int.eq_ofNat_of_zero_le (show 0 ≤ c by omega)
  by_cases h6 : rn ≤ 40
  · by_cases h7 : cn ≤ 40
    · exact hf rn cn (by omega) h6 (by omega) h7
    · exact hg rn cn (by omega) h6 (by omega) (by omega) (by omega)
  · exact hh rn cn (by omega) (by omega) (by omega) (by omega) (by omega)
theorem Makes_walk (r c n : Int) (hr : -9223372036854775808 ≤ r ∧ r ≤ 9223372036854775807) (hc : -9223372036854775808 ≤ c ∧ c ≤ 9223372036854775807) (hn : -9223372036854775808 ≤ n ∧ n ≤ 9223372036854775807) (ra ca : Int) (a0 : Option Addr) (len cap : Nat) (w : World) :
    Calls Try.prog 3 #[.int .i64 r, .int .i64 c, .int .i64 n, .agg #[.int .i64 ra, .int .i64 ca, .slice a0 len cap]] w fun e w' => e = .returned (.bool true) ∧ Below w.heap.size w w' := by
  by_cases h1 : n < 1
  · exact rc_cases (P := fun r c => Calls Try.prog 3 #[.int .i64 r, .int .i64 c, .int .i64 n, .agg #[.int .i64 ra, .int .i64 ca, .slice a0 len cap]] w fun e w' => e = .returned (.bool true) ∧ Below w.heap.size w w')
      (fun r c q1 b1 b2 => Makes_aa r c n h1 hn.1 q1 b1 b2 ra ca a0 len cap w)
      (fun r c q1 b1 b2 => Makes_ab r c n h1 hn.1 q1 b1 b2 ra ca a0 len cap w)
      (fun r c q1 q2 q3 b1 b2 => if h : r ≤ 40 then Makes_ac r c n h1 hn.1 q1 h q3 b1 b2 ra ca a0 len cap w else Makes_ai r c n h1 hn.1 (by omega) q2 q3 b1 b2 ra ca a0 len cap w)
      (fun r c q1 q2 q3 b1 b2 => if h : r ≤ 40 then Makes_ad r c n h1 hn.1 q1 h q3 b1 b2 ra ca a0 len cap w else Makes_aj r c n h1 hn.1 (by omega) q2 q3 b1 b2 ra ca a0 len cap w)
      (fun r c q1 q2 q3 q4 q5 b1 b2 => if h : r ≤ 40 then Makes_ae r c n h1 hn.1 q1 h q3 q4 q5 b1 b2 ra ca a0 len cap w else Makes_ak r c n h1 hn.1 (by omega) q2 q3 q4 q5 b1 b2 ra ca a0 len cap w)
      (fun r c q1 q2 q3 q4 => Makes_af r c n h1 hn.1 q1 q2 q3 q4 ra ca a0 len cap w)
      (fun r c q1 q2 q3 q4 q5 => Makes_ag r c n h1 hn.1 q1 q2 q3 q4 q5 ra ca a0 len cap w)
      (fun r c q1 q2 q3 q4 q5 => Makes_ah r c n h1 hn.1 q1 q2 q3 q4 q5 ra ca a0 len cap w) r c hr hc
  by_cases h2 : 255 < n
  · exact rc_cases (P := fun r c => Calls Try.prog 3 #[.int .i64 r, .int .i64 c, .int .i64 n, .agg #[.int .i64 ra, .int .i64 ca, .slice a0 len cap]] w fun e w' => e = .returned (.bool true) ∧ Below w.heap.size w w')
      (fun r c q1 b1 b2 => Makes_ba r c n h2 hn.2 q1 b1 b2 ra ca a0 len cap w)
      (fun r c q1 b1 b2 => Makes_bb r c n h2 hn.2 q1 b1 b2 ra ca a0 len cap w)
      (fun r c q1 q2 q3 b1 b2 => if h : r ≤ 40 then Makes_bc r c n h2 hn.2 q1 h q3 b1 b2 ra ca a0 len cap w else Makes_bi r c n h2 hn.2 (by omega) q2 q3 b1 b2 ra ca a0 len cap w)
      (fun r c q1 q2 q3 b1 b2 => if h : r ≤ 40 then Makes_bd r c n h2 hn.2 q1 h q3 b1 b2 ra ca a0 len cap w else Makes_bj r c n h2 hn.2 (by omega) q2 q3 b1 b2 ra ca a0 len cap w)
      (fun r c q1 q2 q3 q4 q5 b1 b2 => if h : r ≤ 40 then Makes_be r c n h2 hn.2 q1 h q3 q4 q5 b1 b2 ra ca a0 len cap w else Makes_bk r c n h2 hn.2 (by omega) q2 q3 q4 q5 b1 b2 ra ca a0 len cap w)
      (fun r c q1 q2 q3 q4 => Makes_bf r c n h2 hn.2 q1 q2 q3 q4 ra ca a0 len cap w)
      (fun r c q1 q2 q3 q4 q5 => Makes_bg r c n h2 hn.2 q1 q2 q3 q4 q5 ra ca a0 len cap w)
      (fun r c q1 q2 q3 q4 q5 => Makes_bh r c n h2 hn.2 q1 q2 q3 q4 q5 ra ca a0 len cap w) r c hr hc
  obtain ⟨m, rfl⟩ := Int.eq_ofNat_of_zero_le (show 0 ≤ n by omega)
  clear hn
  by_cases h3 : m ≤ 40
  · have h4 : 1 ≤ m := by omega
    exact rc_cases (P := fun r c => Calls Try.prog 3 #[.int .i64 r, .int .i64 c, .int .i64 m, .agg #[.int .i64 ra, .int .i64 ca, .slice a0 len cap]] w fun e w' => e = .returned (.bool true) ∧ Below w.heap.size w w')
      (fun r c q1 b1 b2 => Makes_ca r c m h4 h3 q1 b1 b2 ra ca a0 len cap w)
      (fun r c q1 b1 b2 => Makes_cb r c m h4 h3 q1 b1 b2 ra ca a0 len cap w)
      (fun r c q1 q2 q3 b1 b2 => if h : r ≤ 40 then Makes_cc r c m h4 h3 q1 h q3 b1 b2 ra ca a0 len cap w else Makes_ci r c m h4 h3 (by omega) q2 q3 b1 b2 ra ca a0 len cap w)
      (fun r c q1 q2 q3 b1 b2 => if h : r ≤ 40 then Makes_cd r c m h4 h3 q1 h q3 b1 b2 ra ca a0 len cap w else Makes_cj r c m h4 h3 (by omega) q2 q3 b1 b2 ra ca a0 len cap w)
      (fun r c q1 q2 q3 q4 q5 b1 b2 => if h : r ≤ 40 then Makes_ce r c m h4 h3 q1 h q3 q4 q5 b1 b2 ra ca a0 len cap w else Makes_ck r c m h4 h3 (by omega) q2 q3 q4 q5 b1 b2 ra ca a0 len cap w)
      (fun r c q1 q2 q3 q4 => Makes_cf r c m h4 h3 q1 q2 q3 q4 ra ca a0 len cap w)
      (fun r c q1 q2 q3 q4 q5 => Makes_cg r c m h4 h3 q1 q2 q3 q4 q5 ra ca a0 len cap w)
      (fun r c q1 q2 q3 q4 q5 => Makes_ch r c m h4 h3 q1 q2 q3 q4 q5 ra ca a0 len cap w) r c hr hc
  by_cases h5 : m ≤ 127
  · have h4 : 41 ≤ m := by omega
    exact rc_cases (P := fun r c => Calls Try.prog 3 #[.int .i64 r, .int .i64 c, .int .i64 m, .agg #[.int .i64 ra, .int .i64 ca, .slice a0 len cap]] w fun e w' => e = .returned (.bool true) ∧ Below w.heap.size w w')
      (fun r c q1 b1 b2 => Makes_da r c m h4 h5 q1 b1 b2 ra ca a0 len cap w)
      (fun r c q1 b1 b2 => Makes_db r c m h4 h5 q1 b1 b2 ra ca a0 len cap w)
      (fun r c q1 q2 q3 b1 b2 => if h : r ≤ 40 then Makes_dc r c m h4 h5 q1 h q3 b1 b2 ra ca a0 len cap w else Makes_di r c m h4 h5 (by omega) q2 q3 b1 b2 ra ca a0 len cap w)
      (fun r c q1 q2 q3 b1 b2 => if h : r ≤ 40 then Makes_dd r c m h4 h5 q1 h q3 b1 b2 ra ca a0 len cap w else Makes_dj r c m h4 h5 (by omega) q2 q3 b1 b2 ra ca a0 len cap w)
      (fun r c q1 q2 q3 q4 q5 b1 b2 => if h : r ≤ 40 then Makes_de r c m h4 h5 q1 h q3 q4 q5 b1 b2 ra ca a0 len cap w else Makes_dk r c m h4 h5 (by omega) q2 q3 q4 q5 b1 b2 ra ca a0 len cap w)
      (fun r c q1 q2 q3 q4 => Makes_df r c m h4 h5 q1 q2 q3 q4 ra ca a0 len cap w)
      (fun r c q1 q2 q3 q4 q5 => Makes_dg r c m h4 h5 q1 q2 q3 q4 q5 ra ca a0 len cap w)
      (fun r c q1 q2 q3 q4 q5 => Makes_dh r c m h4 h5 q1 q2 q3 q4 q5 ra ca a0 len cap w) r c hr hc
  have h4 : 128 ≤ m := by omega
  have h6 : m ≤ 255 := by omega
  exact rc_cases (P := fun r c => Calls Try.prog 3 #[.int .i64 r, .int .i64 c, .int .i64 m, .agg #[.int .i64 ra, .int .i64 ca, .slice a0 len cap]] w fun e w' => e = .returned (.bool true) ∧ Below w.heap.size w w')
      (fun r c q1 b1 b2 => Makes_ea r c m h4 h6 q1 b1 b2 ra ca a0 len cap w)
      (fun r c q1 b1 b2 => Makes_eb r c m h4 h6 q1 b1 b2 ra ca a0 len cap w)
      (fun r c q1 q2 q3 b1 b2 => if h : r ≤ 40 then Makes_ec r c m h4 h6 q1 h q3 b1 b2 ra ca a0 len cap w else Makes_ei r c m h4 h6 (by omega) q2 q3 b1 b2 ra ca a0 len cap w)
      (fun r c q1 q2 q3 b1 b2 => if h : r ≤ 40 then Makes_ed r c m h4 h6 q1 h q3 b1 b2 ra ca a0 len cap w else Makes_ej r c m h4 h6 (by omega) q2 q3 b1 b2 ra ca a0 len cap w)
      (fun r c q1 q2 q3 q4 q5 b1 b2 => if h : r ≤ 40 then Makes_ee r c m h4 h6 q1 h q3 q4 q5 b1 b2 ra ca a0 len cap w else Makes_ek r c m h4 h6 (by omega) q2 q3 q4 q5 b1 b2 ra ca a0 len cap w)
      (fun r c q1 q2 q3 q4 => Makes_ef r c m h4 h6 q1 q2 q3 q4 ra ca a0 len cap w)
      (fun r c q1 q2 q3 q4 q5 => Makes_eg r c m h4 h6 q1 q2 q3 q4 q5 ra ca a0 len cap w)
      (fun r c q1 q2 q3 q4 q5 => Makes_eh r c m h4 h6 q1 q2 q3 q4 q5 ra ca a0 len cap w) r c hr hc
end Go.Proofs.Ytnaeekjocaecmaa
