/- A row of bytes that a slice owns, whatever lies frozen behind its room (what '[]byte(s)' has made is marked there), and append to it. No program is imported here. -/
import Derived.Test.YtkpnllaegkdkkaaDLaws
import Derived.ArgAppend
import Derived.Lib.ConvBytes
namespace Go.Proofs.Ytkpnllaegkdkkaa
open Go.RowKit

structure RowS (w : World) (B g n cap : Nat) (xs : List Value) : Prop where
  len : xs.length = n
  low : B ≤ g
  lt : g < w.heap.size
  le : n ≤ cap
  max : cap ≤ maxLen
  told : ∀ j u, xs[j]? = some u → w.cell? ⟨g, j, none⟩ = some u
  room : ∀ j, j < cap → (w.cell? ⟨g, j, none⟩).isSome = true
  free : ∀ j, j < cap → w.frozen? ⟨g, j, none⟩ = false
theorem RowS.of_own {w : World} {B g n cap : Nat} {e : TypeId} {xs : List Value} (h : w.ownsRow B e 1 (.slice (some ⟨g, 0, none⟩) n cap) n xs) : RowS w B g n cap xs := by
  have hl := h.lt g rfl
  have hf := h.frozenAt
  have hc := h.cellAt
  rcases h.2 with ⟨h0, _⟩ | ⟨g', cap', cur, h0, hB, hg, hn, hm, hs, ht⟩
  · simp at h0
  · simp only [Value.slice.injEq, Option.some.injEq, Addr.mk.injEq, and_true, true_and] at h0
    obtain ⟨rfl, rfl⟩ := h0
    refine ⟨by simpa using h.1, hB, hl.2, hn, hm, fun j u hu => ?_, fun j hj => ?_, fun j _ => hf j⟩
    · have hj := (List.getElem?_eq_some_iff.1 hu).1
      rw [hc j (by have := h.1; omega)]; exact hu
    · rw [cell_of_row w g j cur e (0, 0) hg]
      simp [show j < cur.size by omega]
theorem RowS.keep {w w' : World} {B g n cap : Nat} {xs : List Value} (h : RowS w B g n cap xs) (hlt : g < w'.heap.size) (hc : ∀ j, w'.cell? ⟨g, j, none⟩ = w.cell? ⟨g, j, none⟩) (hf : ∀ j, w'.frozen? ⟨g, j, none⟩ = w.frozen? ⟨g, j, none⟩) : RowS w' B g n cap xs :=
  ⟨h.len, h.low, hlt, h.le, h.max, fun j u hu => by rw [hc]; exact h.told j u hu, fun j hj => by rw [hc]; exact h.room j hj, fun j hj => by rw [hf]; exact h.free j hj⟩
theorem RowS.block {w w' : World} {B g n cap : Nat} {xs : List Value} (h : RowS w B g n cap xs) (hlt : g < w'.heap.size) (hb : w'.heap[g]? = w.heap[g]?) : RowS w' B g n cap xs :=
  h.keep hlt (fun _ => World.cell?_of_block hb) (fun _ => World.frozen?_of_block hb)
theorem RowS.alloc {w : World} {B g n cap : Nat} {xs : List Value} (h : RowS w B g n cap xs) (o : Obj) : RowS (w.alloc o) B g n cap xs :=
  h.block (by have := h.lt; simp; omega) (heap_alloc_old w o h.lt)
theorem RowS.drew {w : World} {B g n cap : Nat} {xs : List Value} (h : RowS w B g n cap xs) : RowS w.drew B g n cap xs := ⟨h.len, h.low, h.lt, h.le, h.max, h.told, h.room, h.free⟩
theorem run_append_S {P : Program} (w : World) (B : Nat) (t ty e : TypeId) (i : TypeInfo) (ht : P.underlying t = some (.slice e)) (hi : P.info? e = some i) (hz : i.zero = some (.int .u8 0)) (hsize : i.size = 1) (hby : i.bytes = 1)
    (g n cap : Nat) (xs : List Value) (h : RowS w B g n cap xs) (a : Addr) (m c : Nat) (news : List Value) (hl : news.length = m) (hm : 0 < m) (hnews : ∀ j u, news[j]? = some u → w.cell? (a.add j) = some u) (h1 : ∀ u ∈ news, u.oneCell' = true)
    (h63 : n + m ≤ maxLen) (hbytes : n + m ≤ 140737488355328) (hB : B ≤ w.heap.size) :
    ∃ g' cap' w', (Builtin.append_ #[t, t] ty #[.slice (some ⟨g, 0, none⟩) n cap, .slice (some a) m c]).run P w = .ok (.slice (some ⟨g', 0, none⟩) (n + m) cap') w' ∧ RowS w' B g' (n + m) cap' (xs ++ news) ∧ Below B w w' := by
  by_cases hroom : n + m ≤ cap
  · have hr := run_append_room_cells (P := P) w t ty e i ht hi g 0 n cap a m c news (by rw [hsize, hl]; omega) hnews h1 hroom
      (fun j hj => by rw [hsize, Nat.zero_add, Nat.mul_one]; exact h.room _ (by omega)) (fun j hj => by rw [hsize, Nat.zero_add, Nat.mul_one]; exact h.free _ (by omega))
    rw [hsize, Nat.zero_add, Nat.mul_one] at hr
    refine ⟨g, cap, _, hr, ⟨by rw [List.length_append, h.len, hl], h.low, by rw [setCells_size]; exact h.lt, hroom, h.max, fun j u hu => ?_, fun j hj => ?_, fun j hj => ?_⟩, below_setCells (Below.refl _ _) h.low _ _⟩
    · by_cases hj : j < n
      · rw [World.cell?_setCells_out g news n w ⟨g, j, none⟩ (fun _ _ => Or.inl hj)]
        exact h.told j u (by rw [List.getElem?_append_left (by rw [h.len]; exact hj)] at hu; exact hu)
      · rw [List.getElem?_append_right (by rw [h.len]; omega), h.len] at hu
        have hj2 := (List.getElem?_eq_some_iff.1 hu).1
        have := World.cell?_setCells_in g news n w (fun q hq => h.room _ (by omega)) (j - n) hj2
        rw [show n + (j - n) = j from by omega] at this
        rw [this, ← hu, List.getElem?_eq_getElem hj2]
    · by_cases hj2 : n ≤ j ∧ j < n + news.length
      · have := World.cell?_setCells_in g news n w (fun q hq => h.room _ (by omega)) (j - n) (by omega)
        rw [show n + (j - n) = j from by omega] at this
        rw [this]; rfl
      · rw [World.cell?_setCells_out g news n w ⟨g, j, none⟩ (fun _ _ => by show j < n ∨ n + news.length ≤ j; omega)]
        exact h.room j hj
    · rw [World.frozen?_setCells]; exact h.free j hj
  · obtain ⟨v', w', hr, hown, hg⟩ := run_append_arg_grows (P := P) w t ty e i (.int .u8 0) 1 1 ht hi hz hsize hby rfl (by decide) ⟨g, 0, none⟩ n cap xs (by rw [h.len]; omega) (fun j u hu => by rw [Addr.add_mid, Nat.zero_add]; exact h.told j u hu) a m c news (by omega) hnews (by omega) h63 (by omega)
    obtain ⟨g', cap', rfl⟩ : ∃ g' cap', v' = .slice (some ⟨g', 0, none⟩) (n + m) cap' := by
      rcases hown.2 with ⟨_, h0⟩ | ⟨g', cap', cur, hv, _⟩
      · omega
      · exact ⟨g', cap', hv⟩
    have hs := RowS.of_own hown
    exact ⟨g', cap', w', hr, ⟨hs.len, by have := hs.low; omega, hs.lt, hs.le, hs.max, hs.told, hs.room, hs.free⟩, (Below.refl B w).grown hg hB (fun k hk => by cases hk)⟩
theorem wpList_append_S {P : Program} {w : World} {ops : Array Oper} {rest : List Oper} {o : Oper} {a : Act} {Q : Exit → Act → World → Prop} (hgd : o.guard = none) (s x : Operand) (t : TypeId)
    (ho : o.op = .call { callee := .builtin .append, args := #[s, x], argTypes := #[t, t] })
    (B : Nat) (e : TypeId) (i : TypeInfo) (ht : P.underlying t = some (.slice e)) (hi : P.info? e = some i) (hz : i.zero = some (.int .u8 0)) (hsize : i.size = 1) (hby : i.bytes = 1)
    (g n cap : Nat) (xs : List Value) (hs : a.eval s = .slice (some ⟨g, 0, none⟩) n cap) (h : RowS w B g n cap xs) (ad : Addr) (m c : Nat) (news : List Value) (hx : a.eval x = .slice (some ad) m c) (hl : news.length = m) (hm : 0 < m)
    (hnews : ∀ j u, news[j]? = some u → w.cell? (ad.add j) = some u) (h1 : ∀ u ∈ news, u.oneCell' = true) (h63 : n + m ≤ maxLen) (hbytes : n + m ≤ 140737488355328) (hB : B ≤ w.heap.size)
    (hK : ∀ g' cap' w', Hid (RowS w' B g' (n + m) cap' (xs ++ news)) → Hid (Below B w w') → wpList P ops Q rest (a.put o.dst (.slice (some ⟨g', 0, none⟩) (n + m) cap')) w') : wpList P ops Q (o :: rest) a w := by
  obtain ⟨g', cap', w', hr, h2, h3⟩ := run_append_S (P := P) w B t o.type e i ht hi hz hsize hby g n cap xs h ad m c news hl hm hnews h1 h63 hbytes hB
  refine wpList_run hgd _ _ ?_ (hK g' cap' w' (Lib.hid h2) (Lib.hid h3))
  unfold execOp
  simp [ho, resolve, invoke, builtin, hs, hx, hr, Result.andThen]
/-- '[]byte(s)'. -/
theorem wpList_string_bytes {P : Program} {w : World} {ops : Array Oper} {rest : List Oper} {o : Oper} {a : Act} {Q : Exit → Act → World → Prop} (hgd : o.guard = none) (src dst : TypeId) (x : Operand) (ho : o.op = .convert src dst x)
    (e : TypeId) (s : ByteArray) (hx : a.eval x = .string s) (hs : P.underlying src = some .string) (hd : P.underlying dst = some (.slice e)) (he : P.underlying e = some (.int .u8)) (hlen : s.size ≤ maxLen)
    (hK : ∀ cap w', Hid (RowS w' w.heap.size w.heap.size s.size cap (s.data.toList.map u8v)) → Hid (Below w.heap.size w w') → wpList P ops Q rest (a.put o.dst (.slice (some ⟨w.heap.size, 0, none⟩) s.size cap)) w') : wpList P ops Q (o :: rest) a w := by
  have hcap := grownCap_ge w s.size 0 e
  have hmax := grownCap_le_maxLen w s.size 0 e hlen
  have hbs : (Lib.bytesCells w e s).size = grownCap w s.size 0 e := by
    simp [Lib.bytesCells]
    have : s.data.size = s.size := rfl
    omega
  refine wpList_run hgd _ (Lib.bytesWorld w e s) ?_ (hK (grownCap w s.size 0 e) _ (Lib.hid ⟨by rw [List.length_map, size_toList], Nat.le_refl _, by rw [Lib.bytesWorld_size]; omega, hcap, hmax, fun j u hu => ?_, fun j hj => ?_, fun j hj => ?_⟩) (Lib.hid ?_))
  · unfold execOp
    simp only [ho, hx, Sem.run_bind, Lib.run_convert_string_bytes w src dst e s hs hd he, Result.andThen_ok]
    rfl
  · have hj := (List.getElem?_eq_some_iff.1 hu).1
    rw [List.length_map, size_toList] at hj
    rw [Lib.bytesWorld_cell w e s j hj, ← hu, List.getElem?_map, List.getElem?_eq_getElem (by rw [size_toList]; exact hj)]
    have hj' : j < s.data.size := hj
    simp [List.getD, u8v, Array.getElem?_eq_getElem hj']
  · rw [cell_of_row _ _ j _ e _ (Lib.bytesWorld_at_new w e s)]
    simp [hbs, hj]
  · have := Lib.bytesWorld_at_new w e s
    simp [World.frozen?, this, hbs]; omega
  · exact ⟨rfl, rfl, rfl, by rw [Lib.bytesWorld_size]; omega, fun j hj => Lib.bytesWorld_at_old w e s j hj⟩
end Go.Proofs.Ytkpnllaegkdkkaa
