/- The walks of layer 9's head and of a block's sum. -/
import Derived.Test.YtdimkgidaioolaaHLeaf
namespace Go.Proofs.Ytdimkgidaioolaa
open Go.RowKit
theorem length_list2 (a b : List UInt8) : (Fr.list [a, b]).length = 12 + a.length + b.length := by
  rw [Fr.length_list, Fr.texts_cons, Fr.texts_cons, Fr.texts_nil]; simp [Fr.length_be]; omega
theorem length_list4 (a b c d : List UInt8) : (Fr.list [a, b, c, d]).length = 20 + a.length + b.length + c.length + d.length := by
  rw [Fr.length_list, Fr.texts_cons, Fr.texts_cons, Fr.texts_cons, Fr.texts_cons, Fr.texts_nil]; simp [Fr.length_be]; omega
theorem Hsum2 (a b : List UInt8) (h : a.length + b.length ≤ 50000) (g cap : Nat) (w : World) (h0 : w.cell? ⟨g, 0, none⟩ = some (.string (bs a))) (h1 : w.cell? ⟨g, 1, none⟩ = some (.string (bs b))) (hg : g < w.heap.size) :
    Calls Try.prog 30 #[.slice (some ⟨g, 0, none⟩) 2 cap] w fun e w' => e = .returned (.string (bs (Shd.hash [a, b]))) ∧ Below w.heap.size w w' := by
  refine Hsum_any _ g 2 cap [a, b] (by rw [length_list2]; omega) w ⟨rfl, Or.inr ⟨rfl, hg⟩, fun i hi => ?_⟩
  match i, hi with
  | 0, _ => rw [h0]; unfold strv; rfl
  | 1, _ => rw [h1]; unfold strv; rfl
theorem Hsum4 (a b c d : List UInt8) (h : a.length + b.length + c.length + d.length ≤ 50000) (g cap : Nat) (w : World) (h0 : w.cell? ⟨g, 0, none⟩ = some (.string (bs a))) (h1 : w.cell? ⟨g, 1, none⟩ = some (.string (bs b))) (h2 : w.cell? ⟨g, 2, none⟩ = some (.string (bs c))) (h3 : w.cell? ⟨g, 3, none⟩ = some (.string (bs d))) (hg : g < w.heap.size) :
    Calls Try.prog 30 #[.slice (some ⟨g, 0, none⟩) 4 cap] w fun e w' => e = .returned (.string (bs (Shd.hash [a, b, c, d]))) ∧ Below w.heap.size w w' := by
  refine Hsum_any _ g 4 cap [a, b, c, d] (by rw [length_list4]; omega) w ⟨rfl, Or.inr ⟨rfl, hg⟩, fun i hi => ?_⟩
  match i, hi with
  | 0, _ => rw [h0]; unfold strv; rfl
  | 1, _ => rw [h1]; unfold strv; rfl
  | 2, _ => rw [h2]; unfold strv; rfl
  | 3, _ => rw [h3]; unfold strv; rfl
/-- The box in which a seal lies. -/
def SealBox (b : Nat) (nm q : ByteArray) (w : World) : Prop := w.cell? ⟨b, 0, none⟩ = some (.string nm) ∧ w.cell? ⟨b, 1, none⟩ = some (.string q)
theorem SealBox.keep {b B : Nat} {nm q : ByteArray} {w w' : World} (h : SealBox b nm q w) (hb : b < B) (hB : Below B w w') : SealBox b nm q w' := ⟨(hB.cell (p := ⟨b, 0, none⟩) hb).trans h.1, (hB.cell (p := ⟨b, 1, none⟩) hb).trans h.2⟩
theorem sealBox_new (w : World) (nm q : ByteArray) : SealBox w.heap.size nm q (w.alloc (.cells #[.string nm, .string q] 41)) := by
  have h : (w.alloc (.cells #[.string nm, .string q] 41)).heap[w.heap.size]? = some (.cells [Value.string nm, .string q].toArray 41 (0, 0)) := heap_alloc_new _ _
  exact ⟨by rw [cell_of_list h]; rfl, by rw [cell_of_list h]; rfl⟩
theorem two_new (w : World) (a b : Value) (T : TypeId) : (w.alloc (.cells #[a, b] T)).cell? ⟨w.heap.size, 0, none⟩ = some a ∧ (w.alloc (.cells #[a, b] T)).cell? ⟨w.heap.size, 1, none⟩ = some b := by
  have h : (w.alloc (.cells #[a, b] T)).heap[w.heap.size]? = some (.cells [a, b].toArray T (0, 0)) := heap_alloc_new _ _
  exact ⟨by rw [cell_of_list h]; rfl, by rw [cell_of_list h]; rfl⟩
theorem four_new (w : World) (a b c d : Value) (T : TypeId) : ((w.alloc (.cells #[a, b, c, d] T)).cell? ⟨w.heap.size, 0, none⟩ = some a ∧ (w.alloc (.cells #[a, b, c, d] T)).cell? ⟨w.heap.size, 1, none⟩ = some b) ∧ (w.alloc (.cells #[a, b, c, d] T)).cell? ⟨w.heap.size, 2, none⟩ = some c ∧ (w.alloc (.cells #[a, b, c, d] T)).cell? ⟨w.heap.size, 3, none⟩ = some d := by
  have h : (w.alloc (.cells #[a, b, c, d] T)).heap[w.heap.size]? = some (.cells [a, b, c, d].toArray T (0, 0)) := heap_alloc_new _ _
  exact ⟨⟨by rw [cell_of_list h]; rfl, by rw [cell_of_list h]; rfl⟩, by rw [cell_of_list h]; rfl, by rw [cell_of_list h]; rfl⟩
set_option maxRecDepth 100000 in
set_option maxHeartbeats 1000000 in
theorem Hhead_any (nm : List UInt8) (L : Nat) (hn : nm.length ≤ 220) (w : World) : Calls Try.prog 18 #[.agg #[.string (bs nm), .string (bs (Fr.be 4 L))]] w fun e w' => e = .returned (.string (bs (Shd.head nm L))) ∧ Below w.heap.size w w' := by
  have hl := Fr.length_be 4 L
  obtain ⟨q, hq⟩ : ∃ q, q = Fr.be 4 L := ⟨_, rfl⟩
  have he : bs q ++ bs (Shd.hash [nm, q]) = bs (Shd.head nm L) := by rw [bs_append, hq]; unfold Shd.head Shd.headSum; rfl
  rw [← hq] at hl ⊢
  obtain ⟨x, hx⟩ : ∃ x, x = bs (Shd.hash [nm, q]) := ⟨_, rfl⟩
  rw [← hx] at he
  have C := Lib.hid (fun (v : World) (g : Nat) (h : v.cell? ⟨g, 0, none⟩ = some (.string (bs nm)) ∧ v.cell? ⟨g, 1, none⟩ = some (.string (bs q))) (hg : g < v.heap.size) => Hsum2 nm q (by omega) g 2 v h.1 h.2 hg)
  rw [← hx] at C
  have HE := Lib.hid he
  have hxz : x.size = 32 := by rw [hx, bs_size, Shd.length_hash]
  have hqz : (bs q).size = 4 := by rw [bs_size, hl]
  clear he hl hq hx
  go_enter Try.func18, Try.ntmps18
  go_wp2_with fail
  have S0 := sealBox_new w (bs nm) (bs q)
  have HB1 := Lib.hid ((Below.refl w.heap.size w).alloc (Nat.le_refl _) (.cells #[.string (bs nm), .string (bs q)] 41))
  have hsz : (w.alloc (.cells #[.string (bs nm), .string (bs q)] 41)).heap.size = w.heap.size + 1 := by simp
  obtain ⟨w1, hw1⟩ : ∃ x, x = w.alloc (.cells #[.string (bs nm), .string (bs q)] 41) := ⟨_, rfl⟩
  rw [← hw1] at S0 HB1 hsz ⊢
  clear hw1
  have hlt : w.heap.size < w1.heap.size := by omega
  have HS := Lib.hid (fun (v : World) (h : Below w1.heap.size w1 v) => S0.keep hlt h)
  unfold SealBox at S0
  clear hsz
  go_region_held3 (fun v => v.cell? ⟨w.heap.size, 0, none⟩ = some (.string (bs nm)) ∧ v.cell? ⟨w.heap.size, 1, none⟩ = some (.string (bs q))) (first | exact S0 | exact HS.out _ (Below.refl _ _).drew | exact HS.out _ ((Below.refl _ _).alloc (Nat.le_refl _) _).drew | exact S3) (first | (go_at_call 30; refine (C.out _ _ (by exact two_new w1 (.string (bs nm)) (.string (bs q)) 9) (by simp)).mono ?_; rintro e w3 ⟨rfl, hb3⟩; have B3 := Lib.hid ((((Below.refl w1.heap.size w1).alloc (Nat.le_refl _) _).drew).trans (hb3.mono (by simp))); have S3 := HS.out _ B3.out; clear hb3) | fail)
  go_wp2_with fail
  go_ret
  exact ⟨by rw [← HE.out]; rfl, HB1.out.trans (B3.out.mono HB1.out.size)⟩
set_option maxRecDepth 100000 in
set_option maxHeartbeats 1000000 in
theorem HsumOf_any (nm : List UInt8) (L i : Nat) (b : List UInt8) (hn : nm.length ≤ 220) (hi : i ≤ 4294967295) (hb : b.length ≤ 200) (w : World) :
    Calls Try.prog 20 #[.agg #[.string (bs nm), .string (bs (Fr.be 4 L))], .int .i64 i, .string (bs b)] w fun e w' => e = .returned (.string (bs (Shd.sumOf nm L i b))) ∧ Below w.heap.size w w' := by
  have hl := Fr.length_be 4 L
  have hl2 := Fr.length_be 4 i
  obtain ⟨q, hq⟩ : ∃ q, q = Fr.be 4 L := ⟨_, rfl⟩
  obtain ⟨r, hr⟩ : ∃ r, r = Fr.be 4 i := ⟨_, rfl⟩
  have he : bs (Shd.hash [nm, q, r, b]) = bs (Shd.sumOf nm L i b) := by rw [hq, hr]; unfold Shd.sumOf; rfl
  have C0 := Lib.hid (fun (v : World) => word_any i hi v)
  rw [← hq] at hl ⊢
  rw [← hr] at hl2 C0
  have C := Lib.hid (fun (v : World) (g : Nat) (h : (v.cell? ⟨g, 0, none⟩ = some (.string (bs nm)) ∧ v.cell? ⟨g, 1, none⟩ = some (.string (bs q))) ∧ v.cell? ⟨g, 2, none⟩ = some (.string (bs r)) ∧ v.cell? ⟨g, 3, none⟩ = some (.string (bs b))) (hg : g < v.heap.size) => Hsum4 nm q r b (by omega) g 4 v h.1.1 h.1.2 h.2.1 h.2.2 hg)
  rw [he] at C
  clear he hl hl2 hq hr
  go_enter Try.func20, Try.ntmps20
  go_wp2_with fail
  have S0 := sealBox_new w (bs nm) (bs q)
  have HB1 := Lib.hid ((Below.refl w.heap.size w).alloc (Nat.le_refl _) (.cells #[.string (bs nm), .string (bs q)] 41))
  have hsz : (w.alloc (.cells #[.string (bs nm), .string (bs q)] 41)).heap.size = w.heap.size + 1 := by simp
  obtain ⟨w1, hw1⟩ : ∃ x, x = w.alloc (.cells #[.string (bs nm), .string (bs q)] 41) := ⟨_, rfl⟩
  rw [← hw1] at S0 HB1 hsz ⊢
  clear hw1
  have hlt : w.heap.size < w1.heap.size := by omega
  have HS := Lib.hid (fun (v : World) (h : Below w1.heap.size w1 v) => S0.keep hlt h)
  unfold SealBox at S0
  clear hsz
  go_region_held3 (fun v => v.cell? ⟨w.heap.size, 0, none⟩ = some (.string (bs nm)) ∧ v.cell? ⟨w.heap.size, 1, none⟩ = some (.string (bs q))) (first | exact S0 | exact HS.out _ (Below.refl _ _).drew | exact HS.out _ B2.out | exact HS.out _ (B2.out.alloc B2.out.size _) | exact HS.out _ (B2.out.alloc B2.out.size _).drew | exact S3) (first | (go_at_call 28; refine (C0.out _).mono ?_; rintro e w2 ⟨rfl, hb2⟩; have B2 := Lib.hid ((Below.refl w1.heap.size w1).drew.trans (hb2.mono (by exact Nat.le_refl _))); clear hb2) | (go_at_call 30; refine (C.out _ _ (by exact four_new w2 (.string (bs nm)) (.string (bs q)) (.string (bs r)) (.string (bs b)) 9) (by simp)).mono ?_; rintro e w3 ⟨rfl, hb3⟩; have B3 := Lib.hid ((B2.out.alloc B2.out.size _).trans (hb3.mono (by simp; exact Nat.le_succ_of_le B2.out.size))); have S3 := HS.out _ B3.out; clear hb3) | fail)
  go_wp2_with fail
  go_ret
  exact ⟨rfl, HB1.out.trans (B3.out.mono HB1.out.size)⟩
end Go.Proofs.Ytdimkgidaioolaa
