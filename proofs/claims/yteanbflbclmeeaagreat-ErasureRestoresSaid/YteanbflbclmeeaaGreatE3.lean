/- Erasure: Join, Check, what comes of them; the chapter's examples. -/
import Derived.Shelf.Strings.OnBuilder
import Derived.Shelf.LaysM
import Derived.Shelf.Strconv.Clone
import Derived.Shelf.Slices.Equal
import Derived.Shelf.Slices.Empties2
import Derived.Test.YteanbflbclmeeaaGreatProg
import Derived.Test.YteanbflbclmeeaaGreatE2
import Derived.Test.YteanbflbclmeeaaGreatMIs
import Derived.Deep.RegionHeld3
/-! EShelf -/
namespace Go.Proofs.YteanbflbclmeeaaGreat
open Go.Shelf
def e_lays156_ren : Go.Shelf.Ren := ⟨fun | 156 => 32 | 165 => 51 | 166 => 52 | 169 => 53 | 240 => 72 | 241 => 73 | 276 => 81 | 277 => 82 | n => n, fun | 31 => 25 | 9 => 9 | 3 => 3 | 4 => 4 | 0 => 0 | 20 => 20 | 72 => 95 | 76 => 45 | 70 => 93 | 37 => 60 | 75 => 29 | 127 => 129 | 164 => 133 | 5 => 5 | 80 => 98 | n => n, fun | n => n⟩
theorem e_lays156 : Go.Proofs.Lays.n156 Tryz.prog e_lays156_ren := {
  mixed := by kernel_rfl
  f156 := Tryz.func32.trans (congrArg some (by kernel_rfl))
  f165 := Tryz.func51.trans (congrArg some (by kernel_rfl))
  f166 := Tryz.func52.trans (congrArg some (by kernel_rfl))
  f169 := Tryz.func53.trans (congrArg some (by kernel_rfl))
  f240 := Tryz.func72.trans (congrArg some (by kernel_rfl))
  f241 := Tryz.func73.trans (congrArg some (by kernel_rfl))
  f276 := Tryz.func81.trans (congrArg some (by kernel_rfl))
  f277 := Tryz.func82.trans (congrArg some (by kernel_rfl))
  t0 := Tryz.underlying0
  a0 := Tryz.isAgg0
  z0 := Tryz.sizeOf0
  v0 := Tryz.zeroValue0
  t3 := Tryz.underlying3
  a3 := Tryz.isAgg3
  z3 := Tryz.sizeOf3
  v3 := Tryz.zeroValue3
  t4 := Tryz.underlying4
  a4 := Tryz.isAgg4
  z4 := Tryz.sizeOf4
  v4 := Tryz.zeroValue4
  t9 := Tryz.underlying9
  a9 := Tryz.isAgg9
  z9 := Tryz.sizeOf9
  v9 := Tryz.zeroValue9
  t20 := Tryz.underlying20
  a20 := Tryz.isAgg20
  z20 := Tryz.sizeOf20
  v20 := Tryz.zeroValue20
  t31 := Tryz.underlying25
  a31 := Tryz.isAgg25
  z31 := Tryz.sizeOf25
  v31 := Tryz.zeroValue25
  t37 := Tryz.underlying60
  a37 := Tryz.isAgg60
  z37 := Tryz.sizeOf60
  v37 := Tryz.zeroValue60
  t70 := Tryz.underlying93
  a70 := Tryz.isAgg93
  z70 := Tryz.sizeOf93
  v70 := Tryz.zeroValue93
  t72 := Tryz.underlying95
  a72 := Tryz.isAgg95
  z72 := Tryz.sizeOf95
  v72 := Tryz.zeroValue95
  t75 := Tryz.underlying29
  a75 := Tryz.isAgg29
  z75 := Tryz.sizeOf29
  v75 := Tryz.zeroValue29
  t76 := Tryz.underlying45
  a76 := Tryz.isAgg45
  z76 := Tryz.sizeOf45
  v76 := Tryz.zeroValue45
  t127 := Tryz.underlying129
  a127 := Tryz.isAgg129
  z127 := Tryz.sizeOf129
  v127 := Tryz.zeroValue129
  t164 := Tryz.underlying133
  a164 := Tryz.isAgg133
  z164 := Tryz.sizeOf133
  v164 := Tryz.zeroValue133 }
theorem e_Builder_Extra_156 : Builder.Extra Tryz.prog e_lays156_ren := {
  sizeBuilder := by kernel_rfl
  liesBuilder := by kernel_rfl
  t5 := Tryz.underlying5
  a5 := Tryz.isAgg5
  z5 := Tryz.sizeOf5
  v5 := Tryz.zeroValue5
  infoByte := by kernel_rfl
  cellsByte := by kernel_rfl
  sizeByte := by kernel_rfl
  neB5 := by decide }
open Go.RowKit in
theorem e_strings_Join_none (a : Option Addr) (c : Nat) (sep : ByteArray) (w : World) :
    Calls Tryz.prog 32 #[.slice a 0 c, .string sep] w fun e w' => e = .returned (.string ⟨#[]⟩) ∧ w' = w := Any.strings_Join_none e_lays156 e_Builder_Extra_156 a c sep w
open Go.RowKit in
theorem e_strings_Join (bk o c : Nat) (xs : List ByteArray) (sep : ByteArray) (w : World) (hcells : ∀ (j : Nat) x, xs[j]? = some x → w.cell? ⟨bk, o + j, none⟩ = some (.string x)) (hbk : bk < w.heap.size) (hN : xs.length ≤ 140737488355328) (hcap : xs.length ≤ c) (hlen : (Lib.join (xs.map (·.data.toList)) sep.data.toList).length ≤ 140737488355328) :
    Calls Tryz.prog 32 #[.slice (some ⟨bk, o, none⟩) xs.length c, .string sep] w fun e w' => e = .returned (.string ⟨(Lib.join (xs.map (·.data.toList)) sep.data.toList).toArray⟩) ∧ Below w.heap.size w w' := Any.strings_Join e_lays156 e_Builder_Extra_156 bk o c xs sep w hcells hbk hN hcap hlen
def e_laysM316_ren : Go.Shelf.Ren := ⟨fun | 316 => 50 | n => n, fun | 9 => 9 | 3 => 3 | 4 => 4 | 37 => 60 | 0 => 0 | 127 => 129 | 5 => 5 | n => n, fun | n => n⟩
theorem e_laysM316 : Go.Proofs.LaysM.n316 Tryz.prog e_laysM316_ren := {
  mixed := by kernel_rfl
  f316 := Tryz.func50.trans (congrArg some (by kernel_rfl))
  t0 := Tryz.underlying0
  a0 := Tryz.isAgg0
  z0 := Tryz.sizeOf0
  v0 := Tryz.zeroValue0
  t3 := Tryz.underlying3
  a3 := Tryz.isAgg3
  z3 := Tryz.sizeOf3
  v3 := Tryz.zeroValue3
  t4 := Tryz.underlying4
  a4 := Tryz.isAgg4
  z4 := Tryz.sizeOf4
  v4 := Tryz.zeroValue4
  t9 := Tryz.underlying9
  a9 := Tryz.isAgg9
  z9 := Tryz.sizeOf9
  v9 := Tryz.zeroValue9
  t37 := Tryz.underlying60
  a37 := Tryz.isAgg60
  z37 := Tryz.sizeOf60
  v37 := Tryz.zeroValue60
  t127 := Tryz.underlying129
  a127 := Tryz.isAgg129
  z127 := Tryz.sizeOf129
  v127 := Tryz.zeroValue129
  t5 := Tryz.underlying5
  a5 := Tryz.isAgg5
  z5 := Tryz.sizeOf5
  v5 := Tryz.zeroValue5
  i0 := by kernel_rfl
  i3 := by kernel_rfl
  i4 := by kernel_rfl
  i5 := by kernel_rfl
  i9 := by kernel_rfl
  i37 := by kernel_rfl
  i127 := by kernel_rfl }
open Go.RowKit in
theorem e_stringslite_Clone (s : ByteArray) (w : World) (hlim : s.size ≤ 281474976710656) :
    Calls Tryz.prog 50 #[.string s] w fun e w' => e = .returned (.string s) ∧ Below w.heap.size w w' := Any.stringslite_Clone e_laysM316 s w hlim
def e_lays193_ren : Go.Shelf.Ren := ⟨fun | 193 => 33 | n => n, fun | 31 => 25 | 9 => 9 | 4 => 4 | 3 => 3 | 0 => 0 | n => n, fun | n => n⟩
theorem e_lays193 : Go.Proofs.Lays.n193 Tryz.prog e_lays193_ren := {
  mixed := by kernel_rfl
  f193 := Tryz.func33.trans (congrArg some (by kernel_rfl))
  t0 := Tryz.underlying0
  a0 := Tryz.isAgg0
  z0 := Tryz.sizeOf0
  v0 := Tryz.zeroValue0
  t3 := Tryz.underlying3
  a3 := Tryz.isAgg3
  z3 := Tryz.sizeOf3
  v3 := Tryz.zeroValue3
  t4 := Tryz.underlying4
  a4 := Tryz.isAgg4
  z4 := Tryz.sizeOf4
  v4 := Tryz.zeroValue4
  t9 := Tryz.underlying9
  a9 := Tryz.isAgg9
  z9 := Tryz.sizeOf9
  v9 := Tryz.zeroValue9
  t31 := Tryz.underlying25
  a31 := Tryz.isAgg25
  z31 := Tryz.sizeOf25
  v31 := Tryz.zeroValue25 }
open Go.RowKit Go.Lib in
theorem e_slices_Equal_string (b1 o1 n c b2 o2 m d : Nat) (xs ys : List ByteArray) (w : World) (hx : n ≤ xs.length) (hy : m ≤ ys.length) (hbig : n ≤ 9223372036854775807) (hbig2 : m ≤ 9223372036854775807) (hc1 : ∀ j, j < xs.length → w.cell? ⟨b1, o1 + j, none⟩ = some (.string (xs.getD j ByteArray.empty))) (hc2 : ∀ j, j < ys.length → w.cell? ⟨b2, o2 + j, none⟩ = some (.string (ys.getD j ByteArray.empty))) :
    Calls Tryz.prog 33 #[.slice (some ⟨b1, o1, none⟩) n c, .slice (some ⟨b2, o2, none⟩) m d] w fun e w' => e = .returned (.bool (decide (xs.take n = ys.take m))) ∧ ∃ q, w' = w.drewN q := Any.slices_Equal_string e_lays193 b1 o1 n c b2 o2 m d xs ys w hx hy hbig hbig2 hc1 hc2
open Go.RowKit Go.Lib in
theorem e_slices_Equal_string_empty (a1 a2 : Option Addr) (c m d : Nat) (w : World) (hbig2 : m ≤ 9223372036854775807) :
    Calls Tryz.prog 33 #[.slice a1 0 c, .slice a2 m d] w fun e w' => e = .returned (.bool (decide (m = 0))) ∧ w' = w := Any.slices_Equal_string_empty e_lays193 a1 a2 c m d w hbig2
open Go.RowKit Go.Lib in
theorem e_slices_Equal_string_lens (a1 a2 : Option Addr) (n c m d : Nat) (w : World) (hnm : n ≠ m) :
    Calls Tryz.prog 33 #[.slice a1 n c, .slice a2 m d] w fun e w' => e = .returned (.bool false) ∧ w' = w := Any.slices_Equal_string_lens e_lays193 a1 a2 n c m d w hnm
end Go.Proofs.YteanbflbclmeeaaGreat
/-! EJoin -/
namespace Go.Proofs.YteanbflbclmeeaaGreat
open Go.RowKit

theorem clone_any (s : ByteArray) (w : World) (h : s.size ≤ 281474976710656) : Calls Tryz.prog 31 #[.string s] w fun e w' => e = .returned (.string s) ∧ Below w.heap.size w w' := by
  have H := Lib.hid (e_stringslite_Clone s w h)
  go_enter Tryz.func31, Tryz.ntmps31
  go_wp2_with fail
  refine H.out.mono ?_
  rintro e w' ⟨rfl, hb⟩
  have HB := Lib.hid hb
  clear hb
  go_wp2_with fail
  go_ret
  exact ⟨rfl, HB.out⟩
/-- Texts, one behind the other. -/
@[irreducible] def catT (f : Nat → ByteArray) (k : Nat) : ByteArray := ⟨((listT f k).flatMap fun s => s.data.toList).toArray⟩
theorem catT_list (f : Nat → ByteArray) (k : Nat) : (catT f k).data.toList = (listT f k).flatMap fun s => s.data.toList := by unfold catT; simp
theorem join_nil (l : List (List UInt8)) : Lib.join l [] = l.flatten := by
  induction l with
  | nil => rfl
  | cons a l ih => cases l <;> simp_all [Lib.join]
theorem catT_size {f : Nat → ByteArray} {k s : Nat} (hf : ∀ j, j < k → (f j).size = s) : (catT f k).size = k * s := by
  rw [← size_toList, catT_list, List.length_flatMap]
  have : ((listT f k).map fun x => x.data.toList.length) = List.replicate k s := by
    apply List.ext_getElem?
    intro j
    by_cases hj : j < k
    · rw [List.getElem?_map, listT_get _ _ _ hj, List.getElem?_replicate, if_pos hj]
      show some ((f j).data.toList.length) = some s
      rw [size_toList, hf j hj]
    · rw [List.getElem?_eq_none (by rw [List.length_map, length_listT]; omega), List.getElem?_eq_none (by rw [List.length_replicate]; omega)]
  rw [this, List.sum_replicate_nat]
set_option maxHeartbeats 1000000 in
theorem Join_ok (k n s L b o cap : Nat) (f : Nat → ByteArray) (hk1 : 1 ≤ k) (hk2 : k ≤ 255) (hkn : k ≤ n) (hcap : n ≤ cap) (hs : szN k L = s) (hL : (L : Int) ≤ 140737488355328) (hsm : s ≤ 1000000) (hf : ∀ j, j < k → (f j).size = s) (w : World) (h : Texts b o n f w) (hl : b < w.heap.size) :
    Calls Tryz.prog 10 #[.int .i64 k, .int .i64 L, .slice (some ⟨b, o, none⟩) n cap] w fun e w' => e = .returned (.tuple #[.string ((catT f k).extract 0 L), .nilIface]) ∧ Below w.heap.size w w' := by
  have HM : Hid (mayE k 0 L = true) := Lib.hid (mayE_yes (m := 0) hk1 rfl hk2)
  have hlt : ¬ (n : Int) < (k : Int) := by omega
  have hltN : ¬ n < k := by omega
  have hltb : decide ((n : Int) < (k : Int)) = false := decide_eq_false hlt
  have hltc : decide (n < k) = false := decide_eq_false hltN
  have HZ : Hid (∀ v, Calls Tryz.prog 20 #[.int .i64 k, .int .i64 L] v fun e w' => e = .returned (.int .i64 s) ∧ Below v.heap.size v w') := Lib.hid (by intro v; rw [← hs]; exact eSz_any k L hk1 (by omega) v)
  have hkc : k ≤ cap := by omega
  have HH : Hid (∀ v, Below w.heap.size w v → Calls Tryz.prog 19 #[.int .i64 s, .slice (some ⟨b, o, none⟩) k cap] v fun e w' => e = .returned (.bool true) ∧ v = w') := Lib.hid fun v hv =>
    allHave_yes s k cap (some ⟨b, o, none⟩) f (by omega) hf v (fun _ => ⟨b, o, rfl, Nat.lt_of_lt_of_le hl hv.size, fun j hj => (h.keep (hv.block b hl)) j (by omega)⟩)
  have HJ : Hid (∀ v, Below w.heap.size w v → Calls Tryz.prog 32 #[.slice (some ⟨b, o, none⟩) k cap, .string ⟨#[]⟩] v fun e w' => e = .returned (.string (catT f k)) ∧ Below v.heap.size v w') := Lib.hid fun v hv => by
    have hlen : (listT f k).length = k := length_listT f k
    have hjn : Lib.join ((listT f k).map (·.data.toList)) (⟨#[]⟩ : ByteArray).data.toList = (catT f k).data.toList := by
      rw [catT_list, show (⟨#[]⟩ : ByteArray).data.toList = [] from rfl, join_nil, List.flatMap]
    have hsz : (catT f k).data.toList.length ≤ 255000000 := by
      rw [size_toList, catT_size hf]
      exact Nat.le_trans (Nat.mul_le_mul hk2 hsm) (by decide)
    have := e_strings_Join b o cap (listT f k) ⟨#[]⟩ v (fun j x hx => by
      have hj : j < k := by have := (List.getElem?_eq_some_iff.1 hx).1; rw [hlen] at this; exact this
      rw [listT_get _ _ _ hj] at hx
      rw [← Option.some.inj hx]
      exact (h.keep (hv.block b hl)) j (by omega)) (Nat.lt_of_lt_of_le hl hv.size) (by rw [hlen]; omega) (by rw [hlen]; exact hkc) (by rw [hjn]; omega)
    rw [hlen, hjn] at this
    exact this
  have HSZ : Hid ((catT f k).size ≤ 255000000 ∧ L ≤ (catT f k).size) := Lib.hid (by
    rw [catT_size hf]
    have := szN_ge hk1 L
    rw [hs] at this
    exact ⟨Nat.le_trans (Nat.mul_le_mul hk2 hsm) (by decide), this⟩)
  clear hs h hf
  go_enter Tryz.func10, Tryz.ntmps10
  go_wp2_with fail
  refine (mayE_any k 0 L (by omega) _).mono ?_
  rintro e w' ⟨rfl, rfl⟩
  rw [HM.out]
  go_wp2_with fail
  obtain ⟨S, hS⟩ : ∃ S : World → Prop, S = fun v => Below w.heap.size w v := ⟨_, rfl⟩
  have hSb : ∀ v v', S v → Below v.heap.size v v' → S v' := by rw [hS]; exact fun v v' hv hb => hv.trans (hb.mono hv.size)
  have SC1 := Lib.hid (quiet_S hSb (f := 20) (args := #[.int .i64 k, .int .i64 L]) (v := .int .i64 s) (fun v _ => HZ.out v))
  have SC2 := Lib.hid (quiet_S hSb (f := 19) (args := #[.int .i64 s, .slice (some ⟨b, o, none⟩) k cap]) (v := .bool true) (fun v hv => (HH.out v (by rw [hS] at hv; exact hv)).mono fun _ _ ⟨he, hw⟩ => ⟨he, hw ▸ Below.refl _ _⟩))
  have S4 : S w.drew := by rw [hS]; exact (Below.refl _ _).drew
  have HS4 := Lib.hid S4
  haveI : Nonempty (Of S) := ⟨⟨_, S4⟩⟩
  have HSS := Lib.hid hS
  clear S4 hS hSb HZ HH HM
  refine wp_region_S S (by kernel_rfl) (by kernel_rfl) HS4.out ?_
  repeat (go_big_quiet_step (first | (go_at_call 20; with_reducible exact SC1.out _) | (go_at_call 19; with_reducible exact SC2.out _)))
  refine wpQuiet_nil ?_
  rintro w7 ⟨u7, e7⟩
  have h7 : S w7 := e7 ▸ u7.ok
  rw [HSS.out] at h7
  have HB7 := Lib.hid h7
  clear e7 u7 h7 this SC1 SC2 HS4 HSS
  have hsz1 := HSZ.out.1
  have hsz2 := HSZ.out.2
  go_wp2_with fail
  refine (HJ.out _ HB7.out).mono ?_
  rintro e w8 ⟨rfl, hb8⟩
  have HB8 := Lib.hid (HB7.out.trans (hb8.mono HB7.out.size))
  clear hb8 HB7 HJ
  go_wp2_with fail
  refine (clone_any ((catT f k).extract 0 L) _ (by rw [ByteArray.size_extract]; omega)).mono ?_
  rintro e w9 ⟨rfl, hb9⟩
  have HB9 := Lib.hid (HB8.out.trans (hb9.mono HB8.out.size))
  clear hb9 HB8
  go_wp2_with fail
  go_ret2
  exact ⟨rfl, HB9.out⟩
/-- Whether the last m belong to the first k. -/
@[irreducible] def chkB (k m s : Nat) (f : Nat → ByteArray) : Bool := decide (∀ i, i < m → parT k s f i = f (k + i))
theorem chkB_eq (k m s : Nat) (f : Nat → ByteArray) : chkB k m s f = decide (∀ i, i < m → parT k s f i = f (k + i)) := by unfold chkB; rfl
theorem lists_chk (k m s : Nat) (f : Nat → ByteArray) : (decide ((listT (parT k s f) m).take m = (listT (fun i => f (k + i)) m).take m)) = chkB k m s f := by
  rw [chkB_eq, List.take_of_length_le (by rw [length_listT]; exact Nat.le_refl _), List.take_of_length_le (by rw [length_listT]; exact Nat.le_refl _)]
  congr 1
  apply propext
  constructor
  · intro e i hi
    have := congrArg (fun l => l[i]?) e
    simp only [listT_get _ _ _ hi] at this
    exact Option.some.inj this
  · intro h
    apply List.ext_getElem?
    intro i
    by_cases hi : i < m
    · rw [listT_get _ _ _ hi, listT_get _ _ _ hi, h i hi]
    · rw [List.getElem?_eq_none (by rw [length_listT]; omega), List.getElem?_eq_none (by rw [length_listT]; omega)]
set_option maxRecDepth 20000 in
set_option maxHeartbeats 2000000 in
theorem Check_some (k m n s b o cap : Nat) (f : Nat → ByteArray) (hk1 : 1 ≤ k) (hm1 : 1 ≤ m) (hn : k + m = n) (hkm : n ≤ 255) (hcap : n ≤ cap) (hsm : s ≤ 1000000) (hf : ∀ j, j < n → (f j).size = s) (w : World) (h : Texts b o n f w) (hl : b < w.heap.size) :
    Calls Tryz.prog 12 #[.int .i64 k, .int .i64 m, .slice (some ⟨b, o, none⟩) n cap] w fun e w' => e = .returned (.tuple #[.bool (chkB k m s f), .nilIface]) ∧ Below w.heap.size w w' := by
  have HM : Hid (mayE k m 0 = true) := Lib.hid (mayE_yes (L := 0) hk1 hn hkm)
  have hsum : wrap64 ((k : Int) + (m : Int)) = (n : Int) := by unfold wrap64; omega
  have HH : Hid (∀ v, Below w.heap.size w v → Calls Tryz.prog 19 #[.int .i64 s, .slice (some ⟨b, o, none⟩) n cap] v fun e w' => e = .returned (.bool true) ∧ v = w') := Lib.hid fun v hv =>
    allHave_yes s n cap (some ⟨b, o, none⟩) f (by omega) hf v (fun _ => ⟨b, o, rfl, Nat.lt_of_lt_of_le hl hv.size, h.keep (hv.block b hl)⟩)
  have HP : Hid (∀ v, Below w.heap.size w v → Calls Tryz.prog 34 #[.int .i64 m, .slice (some ⟨b, o, none⟩) k cap] v fun e w' => ∃ g, e = .returned (.slice (some ⟨g, 0, none⟩) m m) ∧ ColT g m (parT k s f) w' ∧ Below w.heap.size w w') := Lib.hid fun v hv => by
    refine (parity_some m k s b o cap f hm1 hk1 (by omega) hsm (fun j hj => hf j (by omega)) v (fun j hj => (h.keep (hv.block b hl)) j (by omega)) (Nat.lt_of_lt_of_le hl hv.size)).mono ?_
    rintro e w' ⟨g, rfl, hT, hb⟩
    exact ⟨g, rfl, hT, hv.trans (hb.mono hv.size)⟩
  have HE : Hid (∀ v g d, Below w.heap.size w v → ColT g m (parT k s f) v → Calls Tryz.prog 33 #[.slice (some ⟨g, 0, none⟩) m m, .slice (some ⟨b, o + k, none⟩) m d] v fun e w' => e = .returned (.bool (chkB k m s f)) ∧ Below w.heap.size w w') := Lib.hid fun v g d hv hT => by
    have := e_slices_Equal_string g 0 m m b (o + k) m d (listT (parT k s f) m) (listT (fun i => f (k + i)) m) v (by rw [length_listT]; exact Nat.le_refl _) (by rw [length_listT]; exact Nat.le_refl _) (by omega) (by omega) (fun j hj => by
      rw [length_listT] at hj
      rw [hT.t j hj, List.getD, listT_get _ _ _ hj]; rfl) (fun j hj => by
      rw [length_listT] at hj
      rw [Nat.add_assoc, (h.keep (hv.block b hl)) (k + j) (by omega), List.getD, listT_get _ _ _ hj]; rfl)
    rw [lists_chk] at this
    refine this.mono ?_
    rintro e w' ⟨rfl, q, rfl⟩
    exact ⟨rfl, below_drewN hv q⟩
  obtain ⟨x, hx⟩ : ∃ x, x = f 0 := ⟨_, rfl⟩
  have c0 : w.cell? ⟨b, o, none⟩ = some (.string x) := by rw [hx]; exact h 0 (by omega)
  have hxs : x.size = s := by rw [hx]; exact hf 0 (by omega)
  have hkc : k < cap := by omega
  have hkn : k ≤ n := by omega
  have HNM : Hid (n - k = m) := Lib.hid (by omega)
  clear hn h hf hx
  go_enter Tryz.func12, Tryz.ntmps12
  go_wp2_with fail
  refine (mayE_any k m 0 (by omega) _).mono ?_
  rintro e w' ⟨rfl, rfl⟩
  rw [HM.out]
  go_wp2_with fail
  refine (HH.out _ (Below.refl _ _)).mono ?_
  rintro e w' ⟨rfl, rfl⟩
  go_wp2_with fail
  have HBD : Hid (Below w.heap.size w w.drew) := Lib.hid (Below.refl _ _).drew
  clear HM HH c0
  go_region_with (first | (go_at_call 34; refine (HP.out _ HBD.out).mono ?_; rintro e w3 ⟨g3, rfl, hT3, hb3⟩; have HT3 := Lib.hid hT3; have HB3 := Lib.hid hb3; clear hT3 hb3) | (go_at_call 33; rw [HNM.out]; refine (HE.out _ g3 _ HB3.out HT3.out).mono ?_; rintro e w4 ⟨rfl, hb4⟩; have HB4 := Lib.hid hb4; clear hb4))
  all_goals
    go_wp2_with fail
    go_ret2
    exact ⟨rfl, HB4.out⟩
set_option maxRecDepth 20000 in
set_option maxHeartbeats 2000000 in
theorem Check_none (k s b o cap : Nat) (f : Nat → ByteArray) (hk1 : 1 ≤ k) (hk2 : k ≤ 255) (hcap : k ≤ cap) (hf : ∀ j, j < k → (f j).size = s) (w : World) (h : Texts b o k f w) (hl : b < w.heap.size) :
    Calls Tryz.prog 12 #[.int .i64 k, .int .i64 0, .slice (some ⟨b, o, none⟩) k cap] w fun e w' => e = .returned (.tuple #[.bool true, .nilIface]) ∧ Below w.heap.size w w' := by
  have HM : Hid (mayE k 0 0 = true) := Lib.hid (mayE_yes (m := 0) (L := 0) hk1 rfl hk2)
  have HH : Hid (∀ v, Below w.heap.size w v → Calls Tryz.prog 19 #[.int .i64 s, .slice (some ⟨b, o, none⟩) k cap] v fun e w' => e = .returned (.bool true) ∧ v = w') := Lib.hid fun v hv =>
    allHave_yes s k cap (some ⟨b, o, none⟩) f (by omega) hf v (fun _ => ⟨b, o, rfl, Nat.lt_of_lt_of_le hl hv.size, h.keep (hv.block b hl)⟩)
  obtain ⟨x, hx⟩ : ∃ x, x = f 0 := ⟨_, rfl⟩
  have c0 : w.cell? ⟨b, o, none⟩ = some (.string x) := by rw [hx]; exact h 0 (by omega)
  have hxs : x.size = s := by rw [hx]; exact hf 0 (by omega)
  clear h hf hx
  go_enter Tryz.func12, Tryz.ntmps12
  go_wp2_with fail
  refine (mayE_any k 0 0 (by omega) _).mono ?_
  rintro e w' ⟨rfl, rfl⟩
  rw [HM.out]
  go_wp2_with fail
  refine (HH.out _ (Below.refl _ _)).mono ?_
  rintro e w' ⟨rfl, rfl⟩
  go_wp2_with fail
  have HBD : Hid (Below w.heap.size w w.drew) := Lib.hid (Below.refl _ _).drew
  clear HM HH c0
  by_cases hkc : k = cap
  all_goals
    go_region_with (first | (go_at_call 34; refine (parity_none _ _ _ _).mono ?_; rintro e w3 ⟨rfl, rfl⟩) | (go_at_call 33; refine (e_slices_Equal_string_empty _ _ _ _ _ _ (by omega)).mono ?_; rintro e w4 ⟨rfl, rfl⟩))
    all_goals
      go_wp2_with fail
      go_ret2
      exact ⟨rfl, HBD.out⟩
theorem Check_ok (k m n s b o cap : Nat) (f : Nat → ByteArray) (hk1 : 1 ≤ k) (hn : k + m = n) (hkm : n ≤ 255) (hcap : n ≤ cap) (hsm : s ≤ 1000000) (hf : ∀ j, j < n → (f j).size = s) (w : World) (h : Texts b o n f w) (hl : b < w.heap.size) :
    Calls Tryz.prog 12 #[.int .i64 k, .int .i64 m, .slice (some ⟨b, o, none⟩) n cap] w fun e w' => e = .returned (.tuple #[.bool (chkB k m s f), .nilIface]) ∧ Below w.heap.size w w' := by
  by_cases hm : 1 ≤ m
  · exact Check_some k m n s b o cap f hk1 hm hn hkm hcap hsm hf w h hl
  · obtain rfl : m = 0 := by omega
    obtain rfl : n = k := by omega
    rw [show chkB n 0 s f = true by rw [chkB_eq]; exact decide_eq_true fun i hi => by omega]
    exact Check_none n s b o cap f hk1 hkm hcap hf w h hl
end Go.Proofs.YteanbflbclmeeaaGreat
/-! ESame -/
namespace Go.Proofs.YteanbflbclmeeaaGreat
open Go.RowKit

set_option maxHeartbeats 1000000 in
theorem eSame_yes (n c1 c2 : Nat) (a1 a2 : Option Addr) (f1 f2 : Nat → ByteArray) (hn : n ≤ 1000000) (hf : ∀ j, j < n → f1 j = f2 j) (w : World) (h1 : TX a1 n f1 w) (h2 : TX a2 n f2 w) :
    Calls Tryz.prog 9 #[.slice a1 n c1, .slice a2 n c2] w fun e w' => e = .returned (.bool true) ∧ Below w.heap.size w w' := by
  have H1 := Lib.hid h1
  have H2 := Lib.hid h2
  have HF := Lib.hid hf
  have hnb := nat_eq_B (i := n) (p := n) rfl
  clear h1 h2 hf
  go_enter Tryz.func9, Tryz.ntmps9
  go_wp2_with fail
  go_loopw [5] (fun iv wr => ∃ i : Nat, i ≤ n ∧ iv = .int .i64 i ∧ Below w.heap.size w wr) (fun iv _ => n - (intOf iv).toNat)
  case atStart => exact ⟨0, by omega, rfl, Below.refl _ _⟩
  case round =>
    obtain ⟨i, hi, rfl, hB⟩ := hrel
    have HB := Lib.hid hB
    clear hB
    by_cases hlt : i < n
    · obtain ⟨b1, o1, rfl, hl1, ht1⟩ := H1.out (by omega)
      obtain ⟨b2, o2, rfl, hl2, ht2⟩ := H2.out (by omega)
      obtain ⟨x, hx⟩ : ∃ x, x = f1 i := ⟨_, rfl⟩
      have c1' : wr.cell? ⟨b1, o1 + i, none⟩ = some (.string x) := by rw [hx]; exact (HB.out.cell (p := ⟨b1, o1 + i, none⟩) hl1).trans (ht1 i hlt)
      have c2' : wr.cell? ⟨b2, o2 + i, none⟩ = some (.string x) := by rw [hx, HF.out i hlt]; exact (HB.out.cell (p := ⟨b2, o2 + i, none⟩) hl2).trans (ht2 i hlt)
      clear hx ht1 ht2
      go_wp2_with fail
      go_quiet (fail)
      go_wp2_with fail
      go_roundw
      case rel => exact ⟨i + 1, by omega, by go_num, by first | exact HB.out | exact below_drewN HB.out _⟩
      case measure => simp [intOf]; omega
    · obtain rfl : i = n := by omega
      go_wp2_with fail
      go_ret
      exact ⟨rfl, HB.out⟩
/-- What is restored of shards of one text are its shards. -/
theorem restored {k s n : Nat} {p : Nat → Nat} {f : Nat → ByteArray} {X : Mat} (hn : n ≤ 256) (hkn : k ≤ n) (hp : ∀ r, r < k → p r < n) (hinj : ∀ r s, r < k → s < k → p r = p s → r = s) (hf : ∀ r, r < k → f r = shT k s X (p r)) (i : Nat) : allT k s (solT k s p f) i = shT k s X i := by
  rw [allT_sh (fun j _ => solT_size _ _ _ _ _)]
  exact shT_congr (fun a b ha hb => by rw [solT_of hn hkn hp hinj hf ha, txt_at _ _ _ hb]) i
/-- Shards of one text belong together. -/
theorem checked (k m s : Nat) (X : Mat) : chkB k m s (shT k s X) = true := by
  rw [chkB_eq]
  refine decide_eq_true fun i _ => ?_
  rw [parT_eq, shT_hi X (by omega), show k + i - k = i by omega]
  exact txt_congr fun j hj => mm_congr (fun _ _ => rfl) (fun l hl => by rw [shT_at _ _ hj]; exact encM_lo X j hl)
theorem chkB_congr {k m s : Nat} {f h : Nat → ByteArray} (e : ∀ j, j < k + m → f j = h j) : chkB k m s f = chkB k m s h := by
  rw [chkB_eq, chkB_eq]
  congr 1
  apply propext
  have hp : ∀ i, parT k s f i = parT k s h i := fun i => by
    rw [parT_eq, parT_eq]
    exact txt_congr fun j _ => mm_congr (fun _ _ => rfl) (fun l hl => by rw [e l (by omega)])
  constructor
  · intro h0 i hi; rw [← hp, h0 i hi, e _ (by omega)]
  · intro h0 i hi; rw [hp, h0 i hi, e _ (by omega)]
/-- Joined they are the text. -/
theorem joined {k s : Nat} {t : ByteArray} {f : Nat → ByteArray} (hk1 : 1 ≤ k) (hs : szN k t.size = s) (hf : ∀ j, j < k → f j = shT k s (cutM s (strAt t)) j) : (catT f k).extract 0 t.size = t := by
  have hge := szN_ge hk1 t.size
  rw [hs] at hge
  have hl : (catT f k).data.toList = flat (cutM s (strAt t)) k s := by
    rw [catT_list, ← rows_flat]
    unfold listT
    rw [List.flatMap_map]
    show ((List.range k).map _).flatten = ((List.range k).map _).flatten
    congr 1
    refine List.map_congr_left fun j hj => ?_
    have hj := List.mem_range.1 hj
    rw [hf j hj, shT_lo _ hj, txt_list]
  apply ByteArray.ext
  apply Array.toList_inj.1
  have : ((catT f k).extract 0 t.size).data.toList = (catT f k).data.toList.take t.size := by
    rw [ByteArray.data_extract]; simp
  rw [this, hl]
  exact cut_take s k t hge
end Go.Proofs.YteanbflbclmeeaaGreat
/-! EKnown -/
namespace Go.Proofs.YteanbflbclmeeaaGreat
open Go.RowKit

def abc : ByteArray := ⟨#[97, 98, 99]⟩
def exT (i : Nat) : ByteArray := shT 2 2 (cutM 2 (strAt abc)) i
theorem ex0 : exT 0 = ⟨#[97, 98]⟩ := by unfold exT; decide +kernel
theorem ex1 : exT 1 = ⟨#[99, 0]⟩ := by unfold exT; decide +kernel
theorem ex2 : exT 2 = ⟨#[159, 49]⟩ := by unfold exT; decide +kernel
theorem ex_size (i : Nat) : (exT i).size = 2 := shT_size _ _ _ _
/-- Three pieces, of which the first is not there. -/
def has2 (j : Nat) : Bool := decide (1 ≤ j)
def has1 (j : Nat) : Bool := decide (2 ≤ j)
theorem here2 : hereL has2 3 = [1, 2] := by rw [hereL_eq]; decide
theorem here1 : hereL has1 3 = [2] := by rw [hereL_eq]; decide
/-- A block of three pieces. -/
theorem pcs3 {w : World} {g : Nat} {b0 b1 b2 : Bool} {t0 t1 t2 : ByteArray} {T : TypeId} {fr : Nat × Nat} (has : Nat → Bool) (dat : Nat → ByteArray) (h : w.heap[g]? = some (.cells [Value.bool b0, .string t0, .bool b1, .string t1, .bool b2, .string t2].toArray T fr))
    (e0 : has 0 = b0 ∧ dat 0 = t0) (e1 : has 1 = b1 ∧ dat 1 = t1) (e2 : has 2 = b2 ∧ dat 2 = t2) : PX (some ⟨g, 0, none⟩) 3 has dat w := fun _ => ⟨g, 0, rfl, lt_of_heap h, fun j hj => by
  match j, hj with
  | 0, _ => rw [cell_of_list h, cell_of_list h, e0.1, e0.2]; exact ⟨rfl, rfl⟩
  | 1, _ => rw [cell_of_list h, cell_of_list h, e1.1, e1.2]; exact ⟨rfl, rfl⟩
  | 2, _ => rw [cell_of_list h, cell_of_list h, e2.1, e2.2]; exact ⟨rfl, rfl⟩⟩
theorem kSize (w : World) : Calls Tryz.prog 14 #[.int .i64 3, .int .i64 10] w fun e w' => e = .returned (.tuple #[.int .i64 4, .nilIface]) ∧ Below w.heap.size w w' := by
  have := Size_ok 3 10 (by decide) (by decide) (by decide) w
  rw [show szN 3 10 = 4 by rw [szN_eq]; decide] at this; exact this
theorem kEncode (w : World) : Calls Tryz.prog 15 #[.int .i64 2, .int .i64 1, .string abc] w fun e w' => ∃ g c, e = .returned (.tuple #[.slice (some ⟨g, 0, none⟩) 3 c, .nilIface]) ∧ 3 ≤ c ∧ ColT g 3 exT w' ∧ Below w.heap.size w w' :=
  (Encode_ok 2 1 3 2 4 abc (by decide) rfl (by decide) (by rw [szN_eq]; decide) rfl (by decide) w).mono fun _ _ ⟨g, c, he, hc, hT, hb⟩ => ⟨g, c, he, hc, hT.col, hb⟩
theorem kRestore (g cap : Nat) (dat : Nat → ByteArray) (hd : ∀ j, 1 ≤ j → j < 3 → dat j = exT j) (w : World) (h : PX (some ⟨g, 0, none⟩) 3 has2 dat w) : Calls Tryz.prog 6 #[.int .i64 2, .int .i64 1, .int .i64 3, .slice (some ⟨g, 0, none⟩) 3 cap] w fun e w' => ∃ g c, e = .returned (.tuple #[.slice (some ⟨g, 0, none⟩) 3 c, .nilIface]) ∧ 3 ≤ c ∧ ColT g 3 exT w' ∧ Below w.heap.size w w' := by
  refine (Restore_ok 2 1 3 2 3 cap 2 _ has2 dat (fun r => (hereL has2 3).getD r 0) (by decide) rfl (by decide) (by decide) (by rw [szN_eq]; decide) (by decide) (by rw [here2]; rfl) (by decide) rfl (fun j hj hh => by rw [hd j (of_decide_eq_true hh) hj, ex_size]) w h).mono ?_
  rintro e w' ⟨g, c, rfl, hc, hT, hb⟩
  refine ⟨g, c, rfl, hc, ⟨fun j hj => ?_, hT.lt⟩, hb⟩
  rw [hT.t j hj]
  congr 2
  refine restored (n := 3) (by decide) (by decide) (fun r hr => ?_) (fun r s hr hs e => ?_) (fun r hr => ?_) j
  · exact (hereL_at (by rw [here2]; exact hr)).1
  · exact hereL_inj (by rw [here2]; exact hr) (by rw [here2]; exact hs) e
  · have := hereL_at (has := has2) (n := 3) (r := r) (by rw [here2]; exact hr)
    exact hd _ (of_decide_eq_true this.2) this.1
theorem kFew (g cap : Nat) (dat : Nat → ByteArray) (hd : ∀ j, 2 ≤ j → j < 3 → dat j = exT j) (w : World) (h : PX (some ⟨g, 0, none⟩) 3 has1 dat w) : Calls Tryz.prog 6 #[.int .i64 2, .int .i64 1, .int .i64 3, .slice (some ⟨g, 0, none⟩) 3 cap] w fun e w' => ∃ g, w.heap.size ≤ g ∧ e = .returned (.tuple #[.slice none 0 0, faultV g]) ∧ FaultAt g 17 0 w' ∧ Below w.heap.size w w' :=
  Restore_few 2 1 3 2 3 cap 1 _ has1 dat (by decide) rfl (by decide) (by decide) (by rw [szN_eq]; decide) (by rw [here1]; rfl) (by decide) (fun j hj hh => by rw [hd j (of_decide_eq_true hh) hj, ex_size]) w h
theorem kJoin (g cap : Nat) (w : World) (h : ColT g 3 exT w) (hcap : 3 ≤ cap) : Calls Tryz.prog 10 #[.int .i64 2, .int .i64 3, .slice (some ⟨g, 0, none⟩) 3 cap] w fun e w' => e = .returned (.tuple #[.string abc, .nilIface]) ∧ Below w.heap.size w w' := by
  have := Join_ok 2 3 2 3 g 0 cap exT (by decide) (by decide) (by decide) hcap (by rw [szN_eq]; decide) (by decide) (by decide) (fun j _ => ex_size j) w h.t h.lt
  rw [show (catT exT 2).extract 0 3 = abc from joined (t := abc) (s := 2) (by decide) (by rw [szN_eq]; decide) (fun _ _ => rfl)] at this
  exact this
theorem kCheck (g cap : Nat) (w : World) (h : ColT g 3 exT w) (hcap : 3 ≤ cap) : Calls Tryz.prog 12 #[.int .i64 2, .int .i64 1, .slice (some ⟨g, 0, none⟩) 3 cap] w fun e w' => e = .returned (.tuple #[.bool true, .nilIface]) ∧ Below w.heap.size w w' := by
  have := Check_ok 2 1 3 2 g 0 cap exT (by decide) rfl (by decide) hcap (by decide) (fun j _ => ex_size j) w h.t h.lt
  rw [show chkB 2 1 2 exT = true from checked 2 1 2 _] at this
  exact this
set_option maxRecDepth 20000 in
set_option maxHeartbeats 4000000 in
theorem eknown_any (w : World) : Calls Tryz.prog 4 #[] w fun e w' => e = .returned (.bool true) ∧ Below w.heap.size w w' := by
  have HE0 := Lib.hid ex0
  have HE1 := Lib.hid ex1
  have HE2 := Lib.hid ex2
  go_enter Tryz.func4, Tryz.ntmps4
  go_wp2_with fail
  refine (kSize _).mono ?_
  rintro e w1 ⟨rfl, hb1⟩
  have B1 := Lib.hid hb1
  clear hb1
  go_wp2_with fail
  refine (kEncode _).mono ?_
  rintro e w2 ⟨g, c, rfl, hcc, hT2, hb2⟩
  have B2 := Lib.hid (B1.out.trans (hb2.mono B1.out.size))
  have T2 := Lib.hid hT2
  clear hb2 hT2 B1
  have c0 := T2.out.t 0 (by decide)
  have c1 := T2.out.t 1 (by decide)
  have c2 := T2.out.t 2 (by decide)
  rw [ex0] at c0
  rw [ex1] at c1
  rw [ex2] at c2
  simp only [Nat.zero_add] at c0 c1 c2
  go_wp2_with fail
  obtain ⟨dat, hdat⟩ : ∃ dat : Nat → ByteArray, dat = fun j => if j = 0 then .empty else exT j := ⟨_, rfl⟩
  have HD0 : Hid (has2 0 = false ∧ dat 0 = .empty) := Lib.hid ⟨rfl, by rw [hdat]; rfl⟩
  have HD1 : Hid (has2 1 = true ∧ dat 1 = ⟨#[99, 0]⟩) := Lib.hid ⟨rfl, by rw [hdat]; exact ex1⟩
  have HD2 : Hid (has2 2 = true ∧ dat 2 = ⟨#[159, 49]⟩) := Lib.hid ⟨rfl, by rw [hdat]; exact ex2⟩
  have HDD : Hid (∀ j, 1 ≤ j → j < 3 → dat j = exT j) := Lib.hid (fun j h1 _ => by rw [hdat]; exact if_neg (by omega))
  have HS : Hid (∀ v, Below w2.heap.size w2 v → v.cell? ⟨g, 1, none⟩ = some (.string ⟨#[99, 0]⟩) ∧ v.cell? ⟨g, 2, none⟩ = some (.string ⟨#[159, 49]⟩)) := Lib.hid fun v hv => ⟨(hv.cell (p := ⟨g, 1, none⟩) T2.out.lt).trans c1, (hv.cell (p := ⟨g, 2, none⟩) T2.out.lt).trans c2⟩
  clear hdat c0 c1 c2
  have S2 := HS.out w2 (Below.refl _ _)
  go_region_held3 (fun v => v.cell? ⟨g, 1, none⟩ = some (.string ⟨#[99, 0]⟩) ∧ v.cell? ⟨g, 2, none⟩ = some (.string ⟨#[159, 49]⟩)) (first | exact S2 | exact HS.out _ (Below.refl _ _).drew | exact HS.out _ ((Below.refl _ _).drew.alloc (by simp) _) | exact S3) (first | (go_at_call 6; refine (kRestore w2.heap.size 3 dat HDD.out _ (pcs3 has2 dat (heap_alloc_new w2.drew _) HD0.out HD1.out HD2.out)).mono ?_; rintro e w3 ⟨g3, c3, rfl, hcc3, hT3, hb3⟩; have B23 := Lib.hid (((Below.refl w2.heap.size w2).drew.alloc (by simp) _).trans (hb3.mono (by simp))); have S3 := HS.out _ B23.out; have T3 := Lib.hid hT3; clear hT3 hb3) | fail)
  have B3 := Lib.hid (B2.out.trans (B23.out.mono B2.out.size))
  have T23 := Lib.hid (T2.out.below B23.out)
  obtain ⟨c1, c2⟩ := S3
  clear S2 HS HD0 HD1 HDD T2 B2 B23
  obtain ⟨dat1, hdat1⟩ : ∃ dat : Nat → ByteArray, dat = fun j => if j ≤ 1 then .empty else exT j := ⟨_, rfl⟩
  have HE0' : Hid (has1 0 = false ∧ dat1 0 = .empty) := Lib.hid ⟨rfl, by rw [hdat1]; rfl⟩
  have HE1' : Hid (has1 1 = false ∧ dat1 1 = .empty) := Lib.hid ⟨rfl, by rw [hdat1]; rfl⟩
  have HE2' : Hid (has1 2 = true ∧ dat1 2 = ⟨#[159, 49]⟩) := Lib.hid ⟨rfl, by rw [hdat1]; exact ex2⟩
  have HEE : Hid (∀ j, 2 ≤ j → j < 3 → dat1 j = exT j) := Lib.hid (fun j h1 _ => by rw [hdat1]; exact if_neg (by omega))
  clear hdat1
  go_wp2_with fail
  refine (kFew w3.heap.size 3 dat1 HEE.out _ (pcs3 has1 dat1 (heap_alloc_new w3 _) HE0'.out HE1'.out HE2'.out)).mono ?_
  rintro e w4 ⟨g4, hg4, rfl, hF, hb4⟩
  have hb34 := (below_alloc w3 (.cells #[.bool false, .string .empty, .bool false, .string .empty, .bool true, .string ⟨#[159, 49]⟩] 27)).trans (hb4.mono (by simp))
  have B4 := Lib.hid (B3.out.trans (hb34.mono B3.out.size))
  have T24 := Lib.hid (T23.out.below hb34)
  have T34 := Lib.hid (T3.out.below hb34)
  have F4 := Lib.hid hF
  clear hF hb4 hb34 hg4 B3 T23 T3 c1 c2 HE0' HE1' HE2' HEE
  go_wp2_with fail
  refine (kJoin g c _ T24.out hcc).mono ?_
  rintro e w5 ⟨rfl, hb5⟩
  have B5 := Lib.hid (B4.out.trans (hb5.mono B4.out.size))
  have T25 := Lib.hid (T24.out.below hb5)
  have T35 := Lib.hid (T34.out.below hb5)
  have F5 := Lib.hid (F4.out.keep (hb5.block g4 F4.out.lt))
  clear hb5 B4 T24 T34 F4
  go_wp2_with fail
  refine (kCheck g c _ T25.out hcc).mono ?_
  rintro e w6 ⟨rfl, hb6⟩
  have B6 := Lib.hid (B5.out.trans (hb6.mono B5.out.size))
  have T26 := Lib.hid (T25.out.below hb6)
  have T36 := Lib.hid (T35.out.below hb6)
  have F6 := Lib.hid (F5.out.keep (hb6.block g4 F5.out.lt))
  clear hb6 B5 T25 T35 F5
  go_wp2_with fail
  refine (eSame_yes 3 c3 c _ _ exT exT (by decide) (fun _ _ => rfl) _ (fun _ => ⟨g3, 0, rfl, T36.out.lt, T36.out.t⟩) (fun _ => ⟨g, 0, rfl, T26.out.lt, T26.out.t⟩)).mono ?_
  rintro e w7 ⟨rfl, hb7⟩
  have B7 := Lib.hid (B6.out.trans (hb7.mono B6.out.size))
  have F7 := Lib.hid (F6.out.keep (hb7.block g4 F6.out.lt))
  clear hb7 B6 T26 T36 F6
  go_wp2_with fail
  refine (is_fault g4 17 (by decide) _ F7.out).mono ?_
  rintro e w8 ⟨rfl, rfl⟩
  have hab : abc = ⟨#[97, 98, 99]⟩ := rfl
  rw [hab]
  go_wp2_with fail
  go_ret
  exact ⟨rfl, B7.out⟩
end Go.Proofs.YteanbflbclmeeaaGreat
