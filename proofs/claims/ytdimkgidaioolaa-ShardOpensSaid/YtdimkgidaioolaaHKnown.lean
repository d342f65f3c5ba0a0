/- The walk of layer 9's examples: they are so. -/
import Derived.Test.YtdimkgidaioolaaHOpen2
import Derived.Test.YtdimkgidaioolaaHEx
import Derived.Test.YtdimkgidaioolaaRRow
namespace Go.Proofs.Ytdimkgidaioolaa
open Go.RowKit
theorem FaultAt.below {g : Nat} {c a : Int} {w w' : World} (h : FaultAt g c a w) (hb : Below w.heap.size w w') : FaultAt g c a w' := (hb.block g h.lt).trans h
theorem range_set {w : World} {g j : Nat} {xs : List Value} {v : Value} (h : ∀ k u, xs[k]? = some u → w.cell? ⟨g, k, none⟩ = some u) : (w.setCell ⟨g, j, none⟩ v).rangeAt g 0 (xs.set j v) := by
  intro k u hu
  rw [Nat.zero_add]
  by_cases hk : j = k
  · subst hk
    have hl : j < xs.length := by
      have := (List.getElem?_eq_some_iff.1 hu).1
      rwa [List.length_set] at this
    rw [List.getElem?_set_self hl] at hu
    rw [World.cell?_setCell_same _ _ _ (h j _ (List.getElem?_eq_getElem hl)), hu]
  · rw [List.getElem?_set_ne hk] at hu
    rw [World.cell?_setCell_other w ⟨g, j, none⟩ ⟨g, k, none⟩ v (fun e => hk (by injection e))]
    exact h k u hu
theorem Open_rot (nm s : List UInt8) (hn : nm.length ≤ 220) {a : Nat} (h : Shd.opn nm s = .error a) (w : World) : Calls Try.prog 13 #[.string (bs nm), .string (bs s)] w (Refused 14 a (fun v => .tuple #[.string ⟨#[]⟩, v]) w) := by
  by_cases hh : Shd.Headed nm s
  · refine (Open_body nm s hn hh w).mono ?_
    rintro e w' (⟨t, ht, _⟩ | ⟨b, hb, hr⟩)
    · rw [h] at ht; cases ht
    · rw [h] at hb; cases hb; exact hr
  · rw [Shd.opn_not hh] at h
    cases h
    exact Open_head nm s hn hh w
theorem Open_told (nm s t : List UInt8) (hn : nm.length ≤ 220) (h : Shd.opn nm s = .ok t) (w : World) : Calls Try.prog 13 #[.string (bs nm), .string (bs s)] w fun e w' => e = .returned (.tuple #[.string (bs t), .nilIface]) ∧ Below w.heap.size w w' := by
  by_cases hh : Shd.Headed nm s
  · refine (Open_body nm s hn hh w).mono ?_
    rintro e w' (⟨u, hu, r⟩ | ⟨b, hb, _⟩)
    · rw [h] at hu; cases hu; exact r
    · rw [h] at hb; cases hb
  · rw [Shd.opn_not hh] at h; cases h
theorem u8_xor (c d : UInt8) (k : Nat) (hk : k < 256) (hd : d.toNat = c.toNat ^^^ k) : bits .xor .u8 (c.toNat : Int) (k : Int) = (d.toNat : Int) := by
  rw [u8_xor_nat _ _ c.toNat_lt hk, hd]
theorem ex_made (w : World) : (Instr.makeSlice 35 (.int .i64 450) (.int .i64 450)).run Try.prog w = .ok (.slice (some ⟨w.heap.size, 0, none⟩) 450 450) (w.alloc (.cells (zb 450).toArray 5)) := make_bytes 450 (by omega) w
theorem size_0 : Shd.size 0 = 36 := by decide +kernel
theorem size_201 : Shd.size 201 = 301 := by decide +kernel
theorem size_450 : Shd.size 450 = 582 := by decide +kernel
theorem z_450 : Shd.z450 = Fr.zero 450 := by unfold Shd.z450 Fr.zero; rfl
theorem n_110 : (⟨#[110]⟩ : ByteArray) = bs [110] := by rw [← bs_eq]
theorem n_109 : (⟨#[109]⟩ : ByteArray) = bs [109] := by rw [← bs_eq]
set_option maxRecDepth 100000 in
set_option maxHeartbeats 4000000 in
theorem hknown_true (w : World) : Calls Try.prog 7 #[] w fun e w' => e = .returned (.bool true) ∧ Below w.heap.size w w' := by
  have hz : Shd.z450.length = 450 := List.length_replicate ..
  obtain ⟨Z, hZ⟩ : ∃ Z, Z = bs Shd.z450 := ⟨_, rfl⟩
  obtain ⟨S, hS⟩ : ∃ S, S = bs Shd.exS := ⟨_, rfl⟩
  obtain ⟨X, hX⟩ : ∃ X, X = bs Shd.exT := ⟨_, rfl⟩
  have hZz : Z.size = 450 := by rw [hZ, bs_size, hz]
  have hSz : S.size = 582 := by rw [hS, bs_size, Shd.exS, Shd.length_seal, hz]; exact size_450
  have C1 : Hid (∀ v : World, Calls Try.prog 8 #[.string ⟨#[110]⟩, .string Z] v fun e w' => e = .returned (.tuple #[.string S, .nilIface]) ∧ Below v.heap.size v w') := Lib.hid fun v => by
    rw [n_110, hZ, hS]; exact Seal_ok [110] Shd.z450 (by simp) (by rw [hz]; omega) v
  have C2 : Hid (∀ v : World, Calls Try.prog 13 #[.string ⟨#[110]⟩, .string S] v fun e w' => e = .returned (.tuple #[.string Z, .nilIface]) ∧ Below v.heap.size v w') := Lib.hid fun v => by
    rw [n_110, hZ, hS]; exact Open_told [110] Shd.exS Shd.z450 (by simp) (Shd.opn_seal _ _ (by rw [hz]; omega)) v
  have C3 : Hid (∀ v : World, Calls Try.prog 13 #[.string ⟨#[109]⟩, .string S] v (Refused 14 0 (fun x => .tuple #[.string ⟨#[]⟩, x]) v)) := Lib.hid fun v => by
    rw [n_109, hS]; exact Open_rot [109] Shd.exS (by simp) Shd.ex_other v
  have C4 : Hid (∀ v : World, Calls Try.prog 13 #[.string ⟨#[110]⟩, .string X] v (Refused 14 268 (fun x => .tuple #[.string ⟨#[]⟩, x]) v)) := Lib.hid fun v => by
    rw [n_110, hX]; exact Open_rot [110] Shd.exT (by simp) Shd.ex_turned v
  have K1 : Hid (∀ v : World, Calls Try.prog 11 #[.int .i64 0] v fun e w' => e = .returned (.int .i64 36) ∧ v = w') := Lib.hid fun v => by
    have := Size_ok 0 (by omega) v; rw [size_0] at this; exact this
  have K2 : Hid (∀ v : World, Calls Try.prog 11 #[.int .i64 201] v fun e w' => e = .returned (.int .i64 301) ∧ v = w') := Lib.hid fun v => by
    have := Size_ok 201 (by omega) v; rw [size_201] at this; exact this
  have K3 := Lib.hid (fun v : World => Size_bad (-1) (.inl (by omega)) v)
  obtain ⟨sl, hsl⟩ : ∃ sl, sl = Shd.exS := ⟨_, rfl⟩
  obtain ⟨c, hc⟩ : ∃ c, c = sl.getD 317 0 := ⟨_, rfl⟩
  obtain ⟨d, hd⟩ : ∃ d, d = c ^^^ 4 := ⟨_, rfl⟩
  have hxor : bits .xor .u8 (c.toNat : Int) 4 = (d.toNat : Int) := u8_xor c d 4 (by omega) (by rw [hd, UInt8.toNat_xor]; rfl)
  have hsll : sl.length = 582 := by rw [hsl, ← bs_size, ← hS]; exact hSz
  have HC := Lib.hid (show (sl.map u8v)[317]? = some (.int .u8 c.toNat) by rw [List.getElem?_map, List.getElem?_eq_getElem (by omega), hc, List.getD, List.getElem?_eq_getElem (by omega)]; rfl)
  have HX := Lib.hid (show X = bs (sl.set 317 d) by rw [hX, Shd.exT, hd, hc, hsl])
  have HS := Lib.hid (show S.data.toList = sl by rw [hS, bs_list, hsl])
  have HSL := Lib.hid hsll
  have HZ := Lib.hid (show (⟨(Fr.zero 450).toArray⟩ : ByteArray) = Z by rw [hZ, z_450, bs_eq])
  have HZL := Lib.hid (Fr.length_zero 450)
  have HZB := Lib.hid (zb_u8 450)
  have mk := ex_made
  clear hz hZ hS hX hsl hc hd hsll
  go_enter Try.func7, Try.ntmps7
  go_wp2_with (first | (refine wpList_bytes_string rfl 35 9 (.tmp 13) rfl 5 w.heap.size 0 450 450 rfl (Fr.zero 450) HZL.out Try.underlying35 Try.underlying5 Try.underlying9 (range_of_list (by rw [← HZB.out]; exact heap_alloc_new _ _)) ?_; rw [HZ.out]; go_frame) | (go_at_call 8; refine (C1.out _).mono ?_; rintro e w1 ⟨rfl, hb⟩; have HB := Lib.hid (((Below.refl w.heap.size w).alloc (Nat.le_refl _) _).trans (hb.mono (by simp))); clear hb) | (go_at_call 13; (with_reducible refine (C2.out _).mono ?_); rintro e w2 ⟨rfl, hb⟩; replace HB := Lib.hid (HB.out.trans (hb.mono HB.out.size)); clear hb) | (go_at_call 13; (with_reducible refine (C3.out _).mono ?_); rintro e w3 ⟨g3, hg3, rfl, hf3, hb⟩; replace HB := Lib.hid (HB.out.trans (hb.mono HB.out.size)); have HF3 := Lib.hid hf3; have HL3 := Lib.hid hf3.lt; clear hb hf3 hg3) | (refine wpList_string_bytes rfl 9 35 (.tmp 28) rfl 5 S rfl Try.underlying9 Try.underlying35 Try.underlying5 (by rw [hSz]; unfold maxLen; omega) ?_; intro cap w4 h4 b4; have HG := Lib.hid HB.out.size; have R4 := h4.out; rw [HS.out, hSz] at R4; rw [hSz]; have c0 := R4.told 317 _ HC.out; have f0 := R4.free 317 (by have := R4.le; omega); replace HB := Lib.hid (HB.out.trans (b4.out.mono HB.out.size)); replace HF3 := Lib.hid (HF3.out.below b4.out); have R4 := Lib.hid R4; clear b4 h4; go_frame) | (refine wpList_bytes_string rfl 35 9 (.tmp 39) rfl 5 w3.heap.size 0 582 cap rfl (sl.set 317 d) (by rw [List.length_set]; exact HSL.out) Try.underlying35 Try.underlying5 Try.underlying9 (by rw [List.map_set]; exact range_set R4.out.told) ?_; rw [bs_eq (sl.set 317 d), ← HX.out]; go_frame) | (go_at_call 13; (with_reducible refine (C4.out _).mono ?_); rintro e w5 ⟨g5, hg5, rfl, hf5, hb⟩; have HB5 := Lib.hid ((HB.out.setCell (p := ⟨w3.heap.size, 317, none⟩) HG.out _).trans (hb.mono (HB.out.setCell (p := ⟨w3.heap.size, 317, none⟩) HG.out _).size)); have HF5 := Lib.hid hf5; have HF35 := Lib.hid (FaultAt.below ((Below.heap_setCell _ _ _ _ (by have := HL3.out; simp; omega)).trans HF3.out) hb); clear hb hf5 hg5) | (go_at_call 10; (first | (with_reducible refine (is_fault g3 14 0 (by decide) _ HF35.out).mono ?_) | (with_reducible refine (is_fault g5 14 268 (by decide) _ HF5.out).mono ?_)); rintro e w' ⟨rfl, rfl⟩) | (go_at_call 11; (first | (with_reducible refine (K1.out _).mono ?_) | (with_reducible refine (K2.out _).mono ?_) | (with_reducible refine (K3.out _).mono ?_)); rintro e w' ⟨rfl, rfl⟩) | fail)
  go_ret
  exact ⟨rfl, HB5.out⟩
end Go.Proofs.Ytdimkgidaioolaa
