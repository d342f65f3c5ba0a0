/- The program reads a text in quotes. -/
import Derived.Test.YthfnlnhehececaaDoorNChr
import Derived.Lib.FrozenHead
namespace Go.Proofs.YthfnlnhehececaaDoor
open Go.RowKit

theorem ownF_keep {w w' : World} {B b n size : Nat} {e : TypeId} {v : Value} {xs : List Value} (h : w.ownsRowF B e size v n xs) (hk : Kept w.heap.size [b] w w') (hb : b < B) : w'.ownsRowF B e size v n xs := by
  refine ⟨h.1, ?_⟩
  rcases h.2 with h0 | ⟨g, cap, cur, fz, h0, hB, hg, r⟩
  · exact Or.inl h0
  · exact Or.inr ⟨g, cap, cur, fz, h0, hB, (hk.block g (lt_of_heap hg) (by simp; omega)).trans hg, r⟩
theorem wpList_ownF_string {P : Program} {w : World} {ops : Array Oper} {rest : List Oper} {o : Oper} {a : Act} {Q : Exit → Act → World → Prop} (hgd : o.guard = none) (src dst : TypeId) (x : Operand) (ho : o.op = .convert src dst x)
    (B : Nat) (e : TypeId) (v : Value) (n : Nat) (hx : a.eval x = v) (l : List UInt8) (hlen : l.length = n)
    (hs : P.underlying src = some (.slice e)) (he : P.underlying e = some (.int .u8)) (hd : P.underlying dst = some .string) (hown : w.ownsRowF B e 1 v n (l.map u8v))
    (h : wpList P ops Q rest (a.put o.dst (.string (bs l))) w) : wpList P ops Q (o :: rest) a w := by
  rw [← bs_eq] at h
  rcases hown.2 with ⟨hv, h0⟩ | ⟨g, cap, cur, fz, hv, _⟩
  · subst hv h0
    obtain rfl : l = [] := List.eq_nil_of_length_eq_zero hlen
    exact wpList_nil_string hgd src dst x ho e hx hs he hd h
  · subst hv
    refine wpList_bytes_string hgd src dst x ho e g 0 n cap hx l hlen hs he hd ?_ h
    intro j u hj
    have := hown.cells rfl j u hj
    rw [Addr.add_mid] at this
    exact this
/-- A block that is none of the two tables. -/
def Hi (b : Nat) : Prop := 0 < b ∧ 1 < b
theorem Tb.lt {w : World} (h : Tb w) : 0 < w.heap.size ∧ 1 < w.heap.size := by
  have lt : ∀ {a : Addr} {v : Value}, w.cell? a = some v → a.block < w.heap.size := fun {a v} hc => by
    rcases Nat.lt_or_ge a.block w.heap.size with h' | h'
    · exact h'
    · simp [World.cell?, Array.getElem?_eq_none h'] at hc
  exact ⟨lt (h.1 0 (by omega)), lt (h.2 0 (by omega)).1⟩
theorem Tb.hi {w : World} (h : Tb w) {b : Nat} (hb : w.heap.size ≤ b) : Hi b := ⟨by have := h.lt.1; omega, by have := h.lt.2; omega⟩
theorem Tb.keep {w w' : World} {b : Nat} (h : Tb w) (hb : Hi b) (hk : Kept w.heap.size [b] w w') : Tb w' := by
  have h1 := h.lt
  have n1 : 0 ∉ [b] := by have := hb.1; simp; omega
  have n2 : 1 ∉ [b] := by have := hb.2; simp; omega
  exact ⟨fun c hc => (hk.cell (p := ⟨0, c, none⟩) h1.1 n1).trans (h.1 c hc), fun i hi => ⟨(hk.cell (p := ⟨1, 2 * i, none⟩) h1.2 n2).trans (h.2 i hi).1, (hk.cell (p := ⟨1, 2 * i + 1, none⟩) h1.2 n2).trans (h.2 i hi).2⟩⟩
theorem rmap_map {α β γ : Type} (f : α → β) (g : β → γ) (x : Js.Rs α) : (x.map f).map g = x.map (fun a => g (f a)) := by cases x <;> rfl
theorem rmap_id {α : Type} (x : Js.Rs α) : x.map (fun a => a) = x := by cases x <;> rfl
theorem tx_step {k : Nat} {m q : List UInt8} {x : Nat} (h1 : m.head? ≠ some 34) (h : Js.chr m = .ok x q) : Js.tx (k + 1) m = (Js.tx k q).map (Js.enc x ++ ·) := by
  rw [Js.tx, if_neg h1, h]; rfl
theorem tx_stop {k : Nat} {m q : List UInt8} {c : Nat} (h1 : m.head? ≠ some 34) (h : Js.chr m = .bad c q) : Js.tx (k + 1) m = .bad c q := by
  rw [Js.tx, if_neg h1, h]; rfl
theorem tx_end {k : Nat} {q : List UInt8} : Js.tx (k + 1) (34 :: q) = .ok [] q := by rw [Js.tx, if_pos (show (34 :: q).head? = some 34 from rfl)]; rfl
theorem tx_more : ∀ (n m : Nat) (l : List UInt8), l.length < n → l.length < m → Js.tx n l = Js.tx m l
  | 0, _, _, h, _ => by omega
  | _ + 1, 0, _, _, h => by omega
  | n + 1, m + 1, l, h1, h2 => by
    by_cases hm : l.head? = some 34
    · rw [Js.tx, Js.tx, if_pos hm, if_pos hm]
    · have hc := Js.chr_con l
      cases hx : Js.chr l with
      | bad c q => rw [tx_stop hm hx, tx_stop hm hx]
      | ok x q =>
        rw [hx] at hc
        have hc : q.length < l.length := hc
        rw [tx_step hm hx, tx_step hm hx, tx_more n m q (by omega) (by omega)]
theorem append_rune (B : Nat) (v : Value) (T : List UInt8) (x : Nat) (hx : x ≤ 1114111 ∧ ¬ (55296 ≤ x ∧ x ≤ 57343)) (w : World) (hown : w.ownsRowF B 5 1 v T.length (T.map u8v)) (hlen : T.length + 4 ≤ 140737488355328) (hB : B ≤ w.heap.size) :
    Calls Tryd.prog 81 #[v, .int .i32 (x : Int)] w fun e w' => ∃ v', e = .returned v' ∧ w'.ownsRowF B 5 1 v' (T ++ Js.enc x).length ((T ++ Js.enc x).map u8v) ∧ Below B w w' := by
  refine (k_utf8_AppendRune_row B v T.length (T.map u8v) x (by omega) (by omega) w hown hlen hB).mono ?_
  rintro e w' ⟨v', rfl, h1, o, h2⟩
  rw [Js.rune_enc x hx.1 hx.2] at h1
  refine ⟨v', rfl, ?_, ?_⟩
  · rw [List.map_append, List.length_append]
    rw [List.length_map] at h1
    exact h1
  · exact ((Below.refl B w).alloc hB o).grown h2 (by simp; omega) (fun k hk => (hown.lt k hk).1)
set_option maxRecDepth 100000 in
set_option maxHeartbeats 4000000 in
theorem quoted_any (S l : List UInt8) (hS : S.length ≤ 8000) (b p d : Nat) (w : World) (hb : Hi b) (hT : Tb w) (hr : Rd w b (bs S) p d) (hl : Here S p l) :
    Calls Tryd.prog 61 #[.pointer (some ⟨b, 0, none⟩)] w (Out b S d w (fun t v _ => v = .string (bs t)) (Js.quoted l)) := by
  have hlt := hr.lt
  by_cases hq : l.head? = some 34
  · cases l with
    | nil => cases hq
    | cons c r =>
      obtain rfl : c = 34 := by simpa using hq
      have e : Js.quoted (34 :: r) = Js.tx (r.length + 1) r := by unfold Js.quoted; rw [Js.tk_hit]; rfl
      rw [e]
      clear e hq
      obtain ⟨R, hR⟩ : ∃ R, R = Js.tx (r.length + 1) r := ⟨_, rfl⟩
      rw [← hR]
      have TH := Lib.hid (fun v hv => take_hit S r (by omega) 34 b p d v hv hl)
      have HR := Lib.hid hr
      have HT := Lib.hid hT
      have HL := Lib.hid hl.tail
      have HX := Lib.hid (show R = (Js.tx (r.length + 1) r).map ([] ++ ·) by rw [hR, show (fun x : List UInt8 => [] ++ x) = fun x => x from rfl, rmap_id])
      have HTK := Lib.hid (fun (q : Nat) (m : List UInt8) (hm : Here S q (34 :: m)) v hv => takes_hit S m (by omega) 34 b q d v hv hm)
      have HTM := Lib.hid (fun (q : Nat) (m : List UInt8) (hm : Here S q m) (hh : m.head? ≠ some 34) v hv => takes_miss S m 34 b q d v hv hm hh)
      have HCH := Lib.hid (fun (q : Nat) (m : List UInt8) (hm : Here S q m) v hv hT => character_any S m (by omega) b q d v hT hv hm)
      clear hr hl hT hR
      go_enter Tryd.func61, Tryd.ntmps61
      go_wp2_with (first | (go_at_call 79; refine (TH.out _ HR.out).mono ?_; rintro e w1 ⟨rfl, hr1, hk1⟩; have R1 := Lib.hid hr1; have K1 := Lib.hid hk1; have T1 := Lib.hid (HT.out.keep hb hk1); clear hr1 hk1))
      have hs1 := K1.out.size
      have hltb : b < w1.heap.size := by omega
      have O1 := Lib.hid (World.ownsRowF_nil w1 w1.heap.size 5 1)
      go_loopg [3] r.length (fun g v wr => ∃ (m T : List UInt8) (q : Nat), m.length ≤ g ∧ T.length + 4 * m.length ≤ 4 * S.length ∧ Hid (R = (Js.tx (m.length + 1) m).map (T ++ ·)) ∧ Hid (Here S q m) ∧ Hid (Rd wr b (bs S) q d) ∧ Hid (wr.ownsRowF w1.heap.size 5 1 v T.length (T.map u8v)) ∧ Hid (Kept w1.heap.size [b] w1 wr))
      case atStart =>
        have := HL.out.le
        exact ⟨r, [], p + 1, Nat.le_refl _, by simp; omega, HX, HL, R1, O1, Lib.hid (Kept.refl _ _ _)⟩
      case round =>
        clear O1 HX HL R1
        obtain ⟨m, T, q, hg, hTl, hx, hh, hrd, ho, hk⟩ := hrel
        have HTr := Lib.hid (T1.out.keep hb hk.out)
        by_cases hm : m.head? = some 34
        · cases m with
          | nil => cases hm
          | cons c m =>
            obtain rfl : c = 34 := by simpa using hm
            have A := Lib.hid (HTK.out q m hh.out wr hrd.out)
            have hx2 := hx.out
            rw [tx_end] at hx2
            have HX2 := Lib.hid hx2
            have HAT := Lib.hid hh.out.tail.at_
            clear hx2 hm hx hh
            go_wp2_with (first | (go_at_call 80; refine A.out.mono ?_; rintro e w2 ⟨rfl, hr2, hk2⟩; have HR2 := Lib.hid hr2; have HK2 := Lib.hid hk2; have O2 := Lib.hid (ownF_keep ho.out hk2 (by omega)); clear hr2 hk2) | (refine wpList_ownF_string rfl 69 9 _ rfl w1.heap.size 5 _ T.length rfl T rfl Tryd.underlying69 Tryd.underlying5 Tryd.underlying9 O2.out ?_; go_frame))
            go_ret
            rw [HX2.out]
            refine ⟨_, rfl, ?_, by rw [HAT.out]; exact HR2.out, (kk K1.out hk.out).trans (HK2.out.mono (Nat.le_trans hs1 hk.out.size) (fun _ _ h => h))⟩
            simp
        · have A := Lib.hid (HTM.out q m hh.out hm wr hrd.out)
          have C := HCH.out q m hh.out
          cases hc : Js.chr m with
          | bad k q2 =>
            rw [hc] at C
            have C := Lib.hid C
            have hx2 := hx.out
            rw [tx_stop hm hc] at hx2
            have HX2 := Lib.hid hx2
            clear hx2 hm hx hh hc
            go_wp2_with (first | (go_at_call 80; refine A.out.mono ?_; rintro e w2 ⟨rfl, hb2⟩; have HR2 := Lib.hid (hrd.out.below hb2); have HB2 := Lib.hid hb2; have T2 := Lib.hid (HTr.out.below hb2); clear hb2) | (go_at_call 82; refine (C.out _ HR2.out T2.out).mono ?_; rintro e w3 ⟨rfl, hk3⟩))
            refine ⟨rfl, ?_⟩
            rw [HX2.out]
            exact ⟨rfl, (kk K1.out hk.out).trans ((kk (Kept.of_below HB2.out) hk3).mono (Nat.le_trans hs1 hk.out.size) (fun _ _ h => h))⟩
          | ok x q2 =>
            have hlx := chr_lt hc
            have hcon := Js.chr_con m
            have hsuf := Js.chr_suf m
            rw [hc] at C hcon hsuf
            have C := Lib.hid C
            have hx2 := hx.out
            rw [tx_step hm hc] at hx2
            have hlen : q2.length < m.length := hcon
            have hel := Js.enc_len x
            have HH2 := Lib.hid (hh.out.sufTo hsuf)
            have hmS := hh.out.le
            rw [tx_more m.length (q2.length + 1) q2 hlen (by omega), rmap_map] at hx2
            have HX2 := Lib.hid (show R = (Js.tx (q2.length + 1) q2).map ((T ++ Js.enc x) ++ ·) by rw [hx2]; congr 1; funext y; rw [List.append_assoc])
            have HXL := Lib.hid hlx
            clear hx2 hm hx hh hc hcon hsuf hlx
            go_wp2_with (first | (go_at_call 80; refine A.out.mono ?_; rintro e w2 ⟨rfl, hb2⟩; have HR2 := Lib.hid (hrd.out.below hb2); have HB2 := Lib.hid hb2; have T2 := Lib.hid (HTr.out.below hb2); have O2 := Lib.hid (ownF_keep ho.out (Kept.of_below hb2) hltb); clear hb2) | (go_at_call 82; refine (C.out _ HR2.out T2.out).mono ?_; rintro e w3 ⟨v3, rfl, ⟨rfl, _⟩, hr3, hk3⟩; have HR3 := Lib.hid hr3; have HK3 := Lib.hid hk3; have O3 := Lib.hid (ownF_keep O2.out hk3 hltb); clear hr3 hk3) | (go_at_call 81; refine (append_rune w1.heap.size _ T x HXL.out _ O3.out (by omega) (Nat.le_trans (Nat.le_trans hk.out.size HB2.out.size) HK3.out.size)).mono ?_; rintro e w4 ⟨v4, rfl, ho4, hb4⟩))
            go_roundg q2.length
            case rel =>
              have K4 := (hk.out.trans ((kk (Kept.of_below HB2.out) HK3.out).mono hk.out.size (fun _ _ h => h))).trans (Kept.of_below (ws := [b]) hb4)
              refine ⟨q2, T ++ Js.enc x, S.length - q2.length, Nat.le_refl _, by rw [List.length_append]; omega, HX2, HH2, Lib.hid ?_, Lib.hid ho4, Lib.hid K4⟩
              exact (hb4.block b hltb).trans HR3.out
            case measure => omega
  · have hq2 : Js.quoted l = .bad 54 l := by unfold Js.quoted; rw [Js.tk_miss hq]; rfl
    have TM := Lib.hid (take_miss S l 34 b p d w hr hl hq)
    have hat := hl.at_
    rw [hq2]
    clear hr hl hq hq2
    go_enter Tryd.func61, Tryd.ntmps61
    go_wp2_with (first | (go_at_call 79; refine TM.out.mono ?_; rintro e w1 ⟨rfl, hb1⟩))
    exact ⟨rfl, by rw [hat], Kept.of_below hb1⟩
end Go.Proofs.YthfnlnhehececaaDoor
