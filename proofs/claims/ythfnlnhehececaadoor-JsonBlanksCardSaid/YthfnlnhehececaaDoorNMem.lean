/- The program reads the members of a list or an object, whatever reads one of them. -/
import Derived.Test.YthfnlnhehececaaDoorNWord
namespace Go.Proofs.YthfnlnhehececaaDoor
open Go.RowKit

/-- What the members' call comes to. -/
def OutM {α : Type} (b : Nat) (S : List UInt8) (d base : Nat) (w : World) (I : α → World → Prop) : Js.Rs α → Ending → World → Prop
  | .ok a r, e, w' => e = .returned (.tuple #[]) ∧ I a w' ∧ Rd w' b (bs S) (S.length - r.length) d ∧ Kept base [b] w w'
  | .bad c r, e, w' => e = .panicked (rfc c (S.length - r.length)) ∧ Kept base [b] w w'
/-- What is asked of what reads one member. -/
structure Member {α : Type} (g : FuncId) (lb : Array Value) (b : Nat) (S : List UInt8) (d base : Nat) (f : List UInt8 → Js.Rs α) (I : List α → World → Prop) : Prop where
  eg : ∀ args w, (callFunc g args).run Tryd.prog w = .ok (.enter g args) w
  suf : ∀ l, (f l).Suf l
  con : ∀ l, (f l).Con l
  keep : ∀ xs w w', I xs w → Kept w.heap.size [b] w w' → I xs w'
  call : ∀ (xs : List α) (m : List UInt8) (q : Nat) (w : World), xs.length ≤ 8000 → I xs w → Tb w → base ≤ w.heap.size → Rd w b (bs S) q (d + 1) → Here S q m → Calls Tryd.prog g lb w (OutM b S (d + 1) base w (fun a w' => I (xs ++ [a]) w') (f m))
theorem mems_end {α : Type} (e : UInt8) (f : List UInt8 → Js.Rs α) (n : Nat) (fst : Bool) (m : List UInt8) : Js.mems e f (n + 1) fst (e :: m) = .ok [] m := by rw [Js.mems, if_pos (show (e :: m).head? = some e from rfl)]; rfl
theorem mems_fst {α : Type} (e : UInt8) (f : List UInt8 → Js.Rs α) (n : Nat) (m : List UInt8) (h : m.head? ≠ some e) : Js.mems e f (n + 1) true m = (f m).bind fun a r => (Js.mems e f n false (Js.ws r)).map (a :: ·) := by
  rw [Js.mems, if_neg h]; rfl
theorem mems_comma {α : Type} (e : UInt8) (f : List UInt8 → Js.Rs α) (n : Nat) (m : List UInt8) (h : (44 :: m).head? ≠ some e) : Js.mems e f (n + 1) false (44 :: m) = (f (Js.ws m)).bind fun a r => (Js.mems e f n false (Js.ws r)).map (a :: ·) := by
  rw [Js.mems, if_neg h, Js.tk_hit]; rfl
theorem mems_miss {α : Type} (e : UInt8) (f : List UInt8 → Js.Rs α) (n : Nat) (m : List UInt8) (h : m.head? ≠ some e) (h2 : m.head? ≠ some 44) : Js.mems e f (n + 1) false m = .bad 54 m := by
  rw [Js.mems, if_neg h, Js.tk_miss h2]; rfl
theorem kbase {b base : Nat} {w w1 w2 : World} (h : Kept base [b] w w1) (hb : base ≤ w1.heap.size) (k : Kept w1.heap.size [b] w1 w2) : Kept base [b] w w2 := h.trans (k.mono hb (fun _ _ h => h))
theorem Tb.keepB {w w' : World} {b base : Nat} (h : Tb w) (hb : Hi b) (hbb : b < base) (hk : Kept base [b] w w') : Tb w' := by
  have n1 : 0 ∉ [b] := by have := hb.1; simp; omega
  have n2 : 1 ∉ [b] := by have := hb.2; simp; omega
  have h1 : 0 < base := Nat.lt_trans hb.1 hbb
  have h2 : 1 < base := Nat.lt_trans hb.2 hbb
  exact ⟨fun c hc => (hk.cell (p := ⟨0, c, none⟩) h1 n1).trans (h.1 c hc), fun i hi => ⟨(hk.cell (p := ⟨1, 2 * i, none⟩) h2 n2).trans (h.2 i hi).1, (hk.cell (p := ⟨1, 2 * i + 1, none⟩) h2 n2).trans (h.2 i hi).2⟩⟩
/-- A round's member: what it comes to. -/
theorem rbad {α β : Type} {c : Nat} {r : List UInt8} {k : α → List UInt8 → Js.Rs β} {g : β → β} : ((Js.Rs.bad c r : Js.Rs α).bind k).map g = .bad c r := rfl
set_option maxRecDepth 100000 in
set_option maxHeartbeats 8000000 in
theorem members_any {α : Type} (S r0 : List UInt8) (c0 : UInt8) (hS : S.length ≤ 8000) (g : FuncId) (lb : Array Value) (b p d base : Nat) (f : List UInt8 → Js.Rs α) (I : List α → World → Prop) (e : UInt8) (w : World) (M : Member g lb b S d base f I)
    (hb : Hi b) (hbb : b < base) (hw : base ≤ w.heap.size) (hT : Tb w) (hd : d < 20) (hr : Rd w b (bs S) p d) (hl : Here S p (c0 :: r0)) (hI : I [] w) :
    Calls Tryd.prog 83 #[.pointer (some ⟨b, 0, none⟩), .int .u8 e.toNat, .func (.func g) #[] lb] w (OutM b S d base w I (Js.mems e f ((c0 :: r0).length + 1) true (Js.ws r0))) := by
  obtain ⟨eg, MS, MC, MK, MCall⟩ := M
  have MCall := Lib.hid MCall
  have MK := Lib.hid MK
  have MS := Lib.hid MS
  have MC := Lib.hid MC
  obtain ⟨R, hR⟩ : ∃ R, R = Js.mems e f ((c0 :: r0).length + 1) true (Js.ws r0) := ⟨_, rfl⟩
  rw [← hR]
  have HX0 := Lib.hid (show R = (Js.mems e f ((c0 :: r0).length + 1) true (Js.ws r0)).map ([] ++ ·) by rw [hR, show (fun x : List α => [] ++ x) = fun x => x from rfl, rmap_id])
  have c2 := hr.c2
  have f2 := hr.f 2
  have c1 := hr.c1
  have f1 := hr.f 1
  have hlt := hr.lt
  have hpl := hl.lt
  have HW := Lib.hid (Js.ws_len r0)
  have R1 := Lib.hid (hr.set2 (d + 1))
  have e1 := R1.out.c1
  have g1 := R1.out.f 1
  have R2 := Lib.hid (R1.out.set1 (p + 1))
  have K2 := Lib.hid ((kset (w := w) b 2 (.int .i64 ((d + 1 : Nat) : Int))).setCell (p := ⟨b, 1, none⟩) (Or.inl (by simp)) (.int .i64 ((p + 1 : Nat) : Int)))
  have SB := Lib.hid (fun v hv => skipBlanks_any S r0 (by omega) b (p + 1) (d + 1) v hv hl.tail)
  have HI := Lib.hid hI
  have HT := Lib.hid hT
  have HTK := Lib.hid (fun (q : Nat) (m : List UInt8) (hm : Here S q (e :: m)) v hv => takes_hit S m (by omega) e b q (d + 1) v hv hm)
  have HTM := Lib.hid (fun (q : Nat) (m : List UInt8) (hm : Here S q m) (hh : m.head? ≠ some e) v hv => takes_miss S m e b q (d + 1) v hv hm hh)
  have HKH := Lib.hid (fun (q : Nat) (m : List UInt8) (hm : Here S q (44 :: m)) v hv => take_hit S m (by omega) 44 b q (d + 1) v hv hm)
  have HKM := Lib.hid (fun (q : Nat) (m : List UInt8) (hm : Here S q m) (hh : m.head? ≠ some 44) v hv => take_miss S m 44 b q (d + 1) v hv hm hh)
  have HSB := Lib.hid (fun (q : Nat) (m : List UInt8) (hm : Here S q m) v hv => skipBlanks_any S m (by omega) b q (d + 1) v hv hm)
  have HHW := Lib.hid (Here.sufTo hl.tail (Js.ws_suf r0))
  have hd1 : ¬ d = 20 := by omega
  clear hr hl hI hT hR
  go_enter Tryd.func83, Tryd.ntmps83
  go_wp2_with (first | (go_at_call 38; refine (SB.out _ R2.out).mono ?_; rintro e' w3 ⟨rfl, hr3, hk3⟩))
  have hsz : ((w.setCell ⟨b, 2, none⟩ (.int .i64 ((d + 1 : Nat) : Int))).setCell ⟨b, 1, none⟩ (.int .i64 ((p + 1 : Nat) : Int))).heap.size = w.heap.size := by simp [World.setCell]
  have K3 := Lib.hid (K2.out.trans (hk3.mono (by rw [hsz]; exact Nat.le_refl _) (fun _ _ h => h)))
  have HI3 := Lib.hid (MK.out _ _ _ HI.out K3.out)
  have R3 := Lib.hid hr3
  have K3b := Lib.hid (K3.out.mono hw (fun _ _ h => h))
  clear hr3 hk3 hsz K2 R2 e1 g1 c1 c2 f1 f2 HI K3 SB R1
  go_loopg [6] (Js.ws r0).length (fun gg iv wr => ∃ (xs : List α) (k n : Nat) (m : List UInt8) (q : Nat), m.length ≤ gg ∧ m.length < n ∧ k + m.length ≤ S.length ∧ iv = .int .i64 k ∧ Hid (k = xs.length) ∧ Hid (R = (Js.mems e f n xs.isEmpty m).map (xs ++ ·)) ∧ Hid (Here S q m) ∧ Hid (Rd wr b (bs S) q (d + 1)) ∧ Hid (I xs wr) ∧ Hid (Kept base [b] w wr))
  case atStart =>
    have h1 := HHW.out.le
    have h2 := HW.out
    exact ⟨[], 0, _, _, _, Nat.le_refl _, by simp only [List.length_cons]; omega, by omega, rfl, Lib.hid rfl, HX0, HHW, R3, HI3, K3b⟩
  case round =>
    clear HX0 HHW R3 HI3 K3b HW
    obtain ⟨xs, k, n, m, q, hg, hn, hkm, rfl, hkx, hx, hh, hrd, hi, hk⟩ := hrel
    have hbs : base ≤ wr.heap.size := Nat.le_trans hw hk.out.size
    have HTr := Lib.hid (HT.out.keepB hb hbb hk.out)
    obtain ⟨n, rfl⟩ : ∃ n', n = n' + 1 := ⟨n - 1, by omega⟩
    by_cases hm : m.head? = some e
    · cases m with
      | nil => cases hm
      | cons c m =>
        obtain rfl : c = e := by simpa using hm
        have A := Lib.hid (HTK.out q m hh.out wr hrd.out)
        have hx2 := hx.out
        rw [mems_end] at hx2
        have HX2 := Lib.hid (show R = .ok xs m by rw [hx2]; simp [Js.Rs.map])
        have HAT := Lib.hid hh.out.tail.at_
        clear hx2 hx hm
        go_wp2_with (first | (go_at_call 80; refine A.out.mono ?_; rintro e' w2 ⟨rfl, hr2, hk2⟩; have R2 := Lib.hid hr2; have K2 := Lib.hid hk2; have I2 := Lib.hid (MK.out _ _ _ hi.out hk2); have c2 := hr2.c2; have f2 := hr2.f 2; clear hr2 hk2))
        go_end0
        rw [HX2.out]
        exact ⟨rfl, MK.out _ _ _ I2.out (kset b 2 _), by rw [HAT.out]; exact R2.out.set2 d, (kbase hk.out hbs K2.out).trans ((kset b 2 _).mono (Nat.le_trans hbs K2.out.size) (fun _ _ h => h))⟩
    · have A := Lib.hid (HTM.out q m hh.out hm wr hrd.out)
      cases xs with
      | nil =>
        obtain rfl : k = 0 := hkx.out
        have hx2 := hx.out
        rw [show ([] : List α).isEmpty = true from rfl, mems_fst e f n m hm] at hx2
        have CA := fun v => MCall.out [] m q v (by simp)
        have hms := MS.out m
        have hmc := MC.out m
        have HH := hh
        have HM' := Lib.hid hm
        clear hm hx
        cases hf : f m with
        | bad c r =>
          rw [hf] at CA hx2
          have CA := Lib.hid (fun v h1 h2 h3 h4 => CA v h1 h2 h3 h4 HH.out)
          have HX2 := Lib.hid (show R = .bad c r by rw [hx2]; rfl)
          clear hx2 hf hms hmc
          go_wp2_with (first | (go_at_call 80; refine A.out.mono ?_; rintro e' w2 ⟨rfl, hb2⟩; have R2 := Lib.hid (hrd.out.below hb2); have B2 := Lib.hid hb2; have I2 := Lib.hid (MK.out _ _ _ hi.out (Kept.of_below hb2)); have T2 := Lib.hid (HTr.out.below hb2); clear hb2) | (go_at_fn g; refine (CA.out _ I2.out T2.out (Nat.le_trans hbs B2.out.size) R2.out).mono ?_; rintro e' w3 ⟨rfl, hk3⟩))
          refine ⟨rfl, ?_⟩
          rw [HX2.out]
          exact ⟨rfl, (kbase hk.out hbs (Kept.of_below B2.out)).trans hk3⟩
        | ok a r =>
          rw [hf] at CA hx2 hms hmc
          have CA := Lib.hid (fun v h1 h2 h3 h4 => CA v h1 h2 h3 h4 HH.out)
          have HX2 := Lib.hid (show R = (Js.mems e f n [a].isEmpty (Js.ws r)).map ([a] ++ ·) by rw [hx2]; simp only [Js.Rs.bind]; rw [rmap_map]; rfl)
          have hrl : r.length < m.length := hmc
          have hrs : r <:+ m := hms
          have HHr := Lib.hid (HH.out.sufTo hrs)
          have HSr := Lib.hid (fun v hv => HSB.out _ r HHr.out v hv)
          have hwl := Js.ws_len r
          have HHw := Lib.hid (Here.sufTo HHr.out (Js.ws_suf r))
          clear hx2 hf hms hmc hrs
          go_wp2_with (first | (go_at_call 80; refine A.out.mono ?_; rintro e' w2 ⟨rfl, hb2⟩; have R2 := Lib.hid (hrd.out.below hb2); have B2 := Lib.hid hb2; have I2 := Lib.hid (MK.out _ _ _ hi.out (Kept.of_below hb2)); have T2 := Lib.hid (HTr.out.below hb2); clear hb2) | (go_at_fn g; refine (CA.out _ I2.out T2.out (Nat.le_trans hbs B2.out.size) R2.out).mono ?_; rintro e' w3 ⟨rfl, hi3, hr3, hk3⟩; have K3 := Lib.hid ((kbase hk.out hbs (Kept.of_below B2.out)).trans hk3); clear hk3) | (go_at_call 38; refine (HSr.out _ hr3).mono ?_; rintro e' w4 ⟨rfl, hr4, hk4⟩))
          go_roundg (Js.ws r).length
          case rel =>
            have hb3 : base ≤ w3.heap.size := Nat.le_trans hw K3.out.size
            exact ⟨[a], 1, n, Js.ws r, _, Nat.le_refl _, by omega, by omega, by go_num, Lib.hid rfl, HX2, HHw, Lib.hid hr4, Lib.hid (MK.out _ _ _ hi3 hk4), Lib.hid (kbase K3.out hb3 hk4)⟩
          case measure => omega
      | cons x0 xs =>
        have hk0 : 0 < k := by have := hkx.out; simp only [List.length_cons] at this; omega
        have qk : decide (0 < (k : Int)) = true := decide_eq_true (by omega)
        by_cases h44 : m.head? = some 44
        · cases m with
          | nil => cases h44
          | cons c m =>
            obtain rfl : c = 44 := by simpa using h44
            have hx2 := hx.out
            rw [show (x0 :: xs).isEmpty = false from rfl, mems_comma e f n m hm] at hx2
            have TK := Lib.hid (fun v hv => HKH.out q m hh.out v hv)
            have HH1 := Lib.hid hh.out.tail
            have SB1 := Lib.hid (fun v hv => HSB.out (q + 1) m HH1.out v hv)
            have HH := Lib.hid (Here.sufTo HH1.out (Js.ws_suf m))
            have hwm := Js.ws_len m
            have hlx : (x0 :: xs).length ≤ 8000 := by rw [← hkx.out]; omega
            have CA := fun v => MCall.out (x0 :: xs) (Js.ws m) (S.length - (Js.ws m).length) v hlx
            have hms := MS.out (Js.ws m)
            have hmc := MC.out (Js.ws m)
            simp only [List.length_cons] at hg hn hkm
            clear hm hx h44
            generalize Js.ws m = m1 at *
            cases hf : f m1 with
            | bad c r =>
              rw [hf] at CA hx2
              have CA := Lib.hid (fun v h1 h2 h3 h4 => CA v h1 h2 h3 h4 HH.out)
              have HX2 := Lib.hid (show R = .bad c r by rw [hx2]; rfl)
              clear hx2 hf hms hmc
              go_wp2_with (first | (go_at_call 80; refine A.out.mono ?_; rintro e' w2 ⟨rfl, hb2⟩; have R2 := Lib.hid (hrd.out.below hb2); have B2 := Lib.hid hb2; have I2 := Lib.hid (MK.out _ _ _ hi.out (Kept.of_below hb2)); have T2 := Lib.hid (HTr.out.below hb2); clear hb2) | (go_at_call 79; refine (TK.out _ R2.out).mono ?_; rintro e' w3 ⟨rfl, hr3, hk3⟩; have I3 := Lib.hid (MK.out _ _ _ I2.out hk3); have T3 := Lib.hid (T2.out.keep hb hk3)) | (go_at_call 38; refine (SB1.out _ hr3).mono ?_; rintro e' w4 ⟨rfl, hr4, hk4⟩; have I4 := Lib.hid (MK.out _ _ _ I3.out hk4); have T4 := Lib.hid (T3.out.keep hb hk4); have K4 := Lib.hid (kk (kk (Kept.of_below B2.out) hk3) hk4)) | (go_at_fn g; refine (CA.out _ I4.out T4.out (Nat.le_trans hbs K4.out.size) hr4).mono ?_; rintro e' w5 ⟨rfl, hk5⟩))
              refine ⟨rfl, ?_⟩
              rw [HX2.out]
              exact ⟨rfl, (kbase hk.out hbs K4.out).trans hk5⟩
            | ok a r =>
              rw [hf] at CA hx2 hms hmc
              have CA := Lib.hid (fun v h1 h2 h3 h4 => CA v h1 h2 h3 h4 HH.out)
              have HX2 := Lib.hid (show R = (Js.mems e f n ((x0 :: xs) ++ [a]).isEmpty (Js.ws r)).map (((x0 :: xs) ++ [a]) ++ ·) by
                rw [hx2]; simp only [Js.Rs.bind]; rw [rmap_map]; congr 1; funext y; simp)
              have hrl : r.length < m1.length := hmc
              have hrs : r <:+ m1 := hms
              have HHr := Lib.hid (HH.out.sufTo hrs)
              have HSr := Lib.hid (fun v hv => HSB.out _ r HHr.out v hv)
              have hwl := Js.ws_len r
              have HHw := Lib.hid (Here.sufTo HHr.out (Js.ws_suf r))
              clear hx2 hf hms hmc hrs
              go_wp2_with (first | (go_at_call 80; refine A.out.mono ?_; rintro e' w2 ⟨rfl, hb2⟩; have R2 := Lib.hid (hrd.out.below hb2); have B2 := Lib.hid hb2; have I2 := Lib.hid (MK.out _ _ _ hi.out (Kept.of_below hb2)); have T2 := Lib.hid (HTr.out.below hb2); clear hb2) | (go_at_call 79; refine (TK.out _ R2.out).mono ?_; rintro e' w3 ⟨rfl, hr3, hk3⟩; have I3 := Lib.hid (MK.out _ _ _ I2.out hk3); have T3 := Lib.hid (T2.out.keep hb hk3)) | (go_at_call 38; first | (refine (SB1.out _ hr3).mono ?_; rintro e' w4 ⟨rfl, hr4, hk4⟩; have I4 := Lib.hid (MK.out _ _ _ I3.out hk4); have T4 := Lib.hid (T3.out.keep hb hk4); have K4 := Lib.hid (kk (kk (Kept.of_below B2.out) hk3) hk4)) | (refine (HSr.out _ hr5).mono ?_; rintro e' w6 ⟨rfl, hr6, hk6⟩)) | (go_at_fn g; refine (CA.out _ I4.out T4.out (Nat.le_trans hbs K4.out.size) hr4).mono ?_; rintro e' w5 ⟨rfl, hi5, hr5, hk5⟩; have K5 := Lib.hid ((kbase hk.out hbs K4.out).trans hk5); clear hk5))
              go_roundg (Js.ws r).length
              case rel =>
                have hb5 : base ≤ w5.heap.size := Nat.le_trans hw K5.out.size
                exact ⟨(x0 :: xs) ++ [a], k + 1, n, Js.ws r, _, Nat.le_refl _, by omega, by omega, by go_num, Lib.hid (by rw [List.length_append, ← hkx.out]; rfl), HX2, HHw, Lib.hid hr6, Lib.hid (MK.out _ _ _ hi5 hk6), Lib.hid (kbase K5.out hb5 hk6)⟩
              case measure => omega
        · have hx2 := hx.out
          rw [show (x0 :: xs).isEmpty = false from rfl, mems_miss e f n m hm h44] at hx2
          have HX2 := Lib.hid (show R = .bad 54 m from hx2)
          have TK := Lib.hid (fun v hv => HKM.out q m hh.out h44 v hv)
          have HAT := Lib.hid hh.out.at_
          clear hx2 hx hm h44
          go_wp2_with (first | (go_at_call 80; refine A.out.mono ?_; rintro e' w2 ⟨rfl, hb2⟩; have R2 := Lib.hid (hrd.out.below hb2); have B2 := Lib.hid hb2; clear hb2) | (go_at_call 79; refine (TK.out _ R2.out).mono ?_; rintro e' w3 ⟨rfl, hb3⟩))
          refine ⟨rfl, ?_⟩
          rw [HX2.out]
          exact ⟨rfc_eq HAT.out.symm, kbase hk.out hbs (kb (Kept.of_below B2.out) hb3)⟩
/-- Too deep. -/
theorem members_deep (S : List UInt8) (g : FuncId) (lb : Array Value) (b p : Nat) (e : UInt8) (w : World) (hr : Rd w b (bs S) p 20) :
    Calls Tryd.prog 83 #[.pointer (some ⟨b, 0, none⟩), .int .u8 e.toNat, .func (.func g) #[] lb] w fun e' w' => e' = .panicked (rfc 57 p) ∧ w' = w := by
  have c1 := hr.c1
  have c2 := hr.c2
  generalize bs S = s at *
  go_enter Tryd.func83, Tryd.ntmps83
  go_wp2_with fail
  exact ⟨rfl, rfl, rfl⟩
theorem head_cons {l : List UInt8} {c : UInt8} (h : l.head? = some c) : ∃ r, l = c :: r := by
  cases l with
  | nil => cases h
  | cons c' r => obtain rfl : c' = c := by simpa using h
                 exact ⟨r, rfl⟩
theorem vstep_list (g : List UInt8 → Js.Rs Js.J) (r : List UInt8) : Js.vstep (some g) (91 :: r) = (Js.mems 93 g ((91 :: r).length + 1) true (Js.ws r)).map fun ks => .mk 6 [] [] ks := rfl
theorem vstep_object (g : List UInt8 → Js.Rs Js.J) (r : List UInt8) : Js.vstep (some g) (123 :: r) = (Js.mems 125 (Js.mem g) ((123 :: r).length + 1) true (Js.ws r)).map fun ms => .mk 7 [] (ms.map (·.1)) (ms.map (·.2)) := rfl
end Go.Proofs.YthfnlnhehececaaDoor
