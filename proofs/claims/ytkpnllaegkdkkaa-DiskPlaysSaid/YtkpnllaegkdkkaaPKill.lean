/- The document's disk: killing; blank sectors, a new disk, replacing. -/
import Derived.Test.YtkpnllaegkdkkaaPFlush
namespace Go.Proofs.Ytkpnllaegkdkkaa
open Go.RowKit

section
variable {r q : Nat} {hv wv : Value} {n : Nat} {S : List (List UInt8)} {ps : List Dk.Wr} {dead : Bool} {life left acts : Int} {w : World}
theorem RAt.setDead (h : RAt r q hv wv n S ps dead life w) (b : Bool) : RAt r q hv wv n S ps b life (w.setCell ⟨r, 4, none⟩ (.bool b)) := by
  refine ⟨set_list h.obj 4 _, ?_, ?_, h.n1, h.n2, h.wide, h.wrs, h.few, h.q0, h.oh, h.ow⟩
  · exact own_keep h.has (fun x hx => heap_setCell_other _ _ _ _ (fun e => (h.oh x hx).1 e))
  · exact own_keep h.wait (fun x hx => heap_setCell_other _ _ _ _ (fun e => (h.ow x hx).1 e))
theorem RAt.setLife (h : RAt r q hv wv n S ps dead life w) (b : Int) : RAt r q hv wv n S ps dead b (w.setCell ⟨r, 5, none⟩ (.int .i64 b)) := by
  refine ⟨set_list h.obj 5 _, ?_, ?_, h.n1, h.n2, h.wide, h.wrs, h.few, h.q0, h.oh, h.ow⟩
  · exact own_keep h.has (fun x hx => heap_setCell_other _ _ _ _ (fun e => (h.oh x hx).1 e))
  · exact own_keep h.wait (fun x hx => heap_setCell_other _ _ _ _ (fun e => (h.ow x hx).1 e))
theorem rkill_ok {G : List Nat} (h : RDisk r q G n S ps dead life w) (hl0 : 0 ≤ life) (hl : life ≤ 1000000000000) :
    Calls Try.prog 27 #[.pointer (some ⟨r, 0, none⟩)] w fun e w' => e = .returned (.tuple #[]) ∧ RDisk r q G n S [] true (life + 1) w' ∧ Kept w.heap.size G w w' := by
  obtain ⟨hv, wv, h, g1, g2, g3, g4, g5⟩ := h
  have c4 := h.c4
  have c5 := h.c5
  have c3 := h.c3
  have f4 := h.free 4
  have f3 := h.free 3
  have f5 := h.free 5
  have H := Lib.hid h
  have HG := Lib.hid (And.intro g1 (And.intro g2 (And.intro g3 (And.intro g4 g5))))
  clear h g1 g2 g3 g4 g5
  go_enter Try.func27, Try.ntmps27
  go_wp2
  go_end0
  obtain ⟨q1, q2, q3, q4, q5⟩ := HG.out
  have h1 := H.out.setDead true
  obtain ⟨h2, _⟩ := h1.clear
  have h3 := h2.setLife (life + 1)
  have hk : Kept w.heap.size [r] w (((w.setCell ⟨r, 4, none⟩ (.bool true)).setCell ⟨r, 3, none⟩ (.slice none 0 0)).setCell ⟨r, 5, none⟩ (.int .i64 (life + 1))) :=
    (((Kept.refl _ _ _).setCell (p := ⟨r, 4, none⟩) (by simp) _).setCell (p := ⟨r, 3, none⟩) (by simp) _).setCell (p := ⟨r, 5, none⟩) (by simp) _
  have hz := hk.size
  refine ⟨rfl, ⟨hv, .slice none 0 0, h3, q1, q2, (by intro x hx; cases hx), q4, fun x hx => by have := q5 x hx; omega⟩, hk.mono (Nat.le_refl _) (fun x _ hm => ?_)⟩
  simp only [List.mem_cons, List.not_mem_nil, or_false] at hm
  exact hm ▸ q1
end
theorem infoU8r : (Try.prog.info? 5).map (fun i => (i.zero, i.size, i.bytes)) = some (some (.int .u8 0), 1, 1) := by kernel_rfl
theorem infoTextr : (Try.prog.info? 9).map (fun i => (i.zero, i.size, i.bytes)) = some (some (.string ⟨#[]⟩), 1, 16) := by kernel_rfl
theorem own_belowr {w w' : World} {B n size : Nat} {e : TypeId} {v : Value} {xs : List Value} (h : w.ownsRow B e size v n xs) (hb : Below w.heap.size w w') : w'.ownsRow B e size v n xs :=
  own_keep h (fun g hg => hb.block g (h.lt g hg).2)
/-- A blank sector, a text. -/
def zq : ByteArray := ⟨(List.replicate 64 0).toArray⟩
theorem zq_sv : Value.string zq = sv (List.replicate 64 0) := rfl
set_option maxRecDepth 100000 in
theorem rblank_any (w : World) : Calls Try.prog 48 #[] w fun e w' => e = .returned (.string zq) ∧ Below w.heap.size w w' := by
  obtain ⟨i0, hi, hz0, hz1, hz2⟩ := info_parts infoU8r
  have hzz : (List.replicate 64 (0 : UInt8)).map u8v = List.replicate 64 (.int .u8 0) := by rw [List.map_replicate]; rfl
  have HZ := Lib.hid hzz
  obtain ⟨z, hz⟩ : ∃ z, z = List.replicate 64 (0 : UInt8) := ⟨_, rfl⟩
  have hq : zq = ⟨z.toArray⟩ := by rw [hz]; rfl
  have hzl : z.length = 64 := by rw [hz]; rfl
  rw [← hz] at HZ
  rw [hq]
  have HZL := Lib.hid hzl
  clear hzz hz hq hzl
  go_enter Try.func48, Try.ntmps48
  go_wp2_with (first | (refine wpList_make_row rfl 81 _ _ rfl 5 i0 (.int .u8 0) 1 Try.underlying81 hi hz0 hz1 hz2 rfl 64 64 rfl rfl (by omega) (by omega) (by omega) ?_; intro w1 hown hb1; have HB1 := Lib.hid hb1; clear hb1; go_frame) | (refine wpList_bytes_string rfl 81 9 _ rfl 5 w.heap.size 0 64 64 rfl z HZL.out Try.underlying81 Try.underlying5 Try.underlying9 (by rw [HZ.out]; exact range_of_own hown.out) ?_; go_frame))
  go_ret
  exact ⟨rfl, HB1.out⟩
set_option maxRecDepth 100000 in
set_option maxHeartbeats 1000000 in
theorem rblanks_any (n : Nat) (hn : n ≤ 8192) (w : World) : Calls Try.prog 20 #[.int .i64 n] w fun e w' => ∃ v, e = .returned v ∧ w'.ownsRow w.heap.size 9 1 v n ((blankS n).map sv) ∧ Below w.heap.size w w' := by
  obtain ⟨i0, hi, hz0, hz1, hz2⟩ := info_parts infoTextr
  obtain ⟨q, hq⟩ : ∃ q, q = zq := ⟨_, rfl⟩
  have hb : ∀ w : World, Calls Try.prog 48 #[] w fun e w' => e = .returned (.string q) ∧ Below w.heap.size w w' := by rw [hq]; exact rblank_any
  have HBL := Lib.hid hb
  have hs : ∀ k : Nat, (blankS k).map sv = List.replicate k (.string q) := by intro k; rw [blankS, List.map_replicate, hq, zq_sv]
  have HS := Lib.hid hs
  clear hb hs hq
  go_enter Try.func20, Try.ntmps20
  go_wp2_with fail
  go_loopw [3, 4] (fun vv iv wr => ∃ k : Nat, k ≤ n ∧ iv = .int .i64 k ∧ wr.ownsRow w.heap.size 9 1 vv k (List.replicate k (.string q)) ∧ Below w.heap.size w wr) (fun _ iv _ => n - (intOf iv).toNat)
  case atStart => exact ⟨0, by omega, rfl, World.ownsRow_nil _ _ _ _, Below.refl _ _⟩
  case round =>
    obtain ⟨k, hk, rfl, hown, hB⟩ := hrel
    have hsz0 := hB.size
    have HO := Lib.hid hown
    have HB := Lib.hid hB
    clear hown hB
    by_cases hlt : k < n
    · go_wp2_with (first | (go_at_call 48; refine (HBL.out _).mono ?_; rintro e w5 ⟨rfl, hb⟩; have HO5 := Lib.hid (own_belowr HO.out hb); have HB5 := Lib.hid (HB.out.trans (hb.mono HB.out.size)); clear hb; have hsz5 := HB5.out.size) | (refine wpList_append_own _ rfl (.tmp 10) (.tmp 12) 69 rfl w.heap.size 9 i0 (.string ⟨#[]⟩) 1 16 Try.underlying69 hi hz0 hz1 hz2 rfl (by decide) _ k _ rfl (HO5.out.alloc _) ⟨w5.heap.size, 0, none⟩ 1 1 [.string q] rfl rfl (news_row (heap_alloc_new _ _)) (by intro u hu; simp only [List.mem_singleton] at hu; rw [hu]; rfl) (by unfold maxLen; omega) (by omega) (by simp; omega) ?_; intro v7 w7 h7 hg7 _; have H7 := Lib.hid h7; have B7 := Lib.hid ((HB5.out.alloc (by omega) _).grown hg7 (by simp; omega) (fun k hk => (HO5.out.lt k hk).1)); clear h7 hg7; go_frame) | fail)
      go_roundw
      case rel => exact ⟨k + 1, by omega, by go_num, by rw [List.replicate_succ']; exact H7.out, B7.out⟩
      case measure => simp [intOf]; omega
    · have hkn : Hid (k = n) := Lib.hid (by omega)
      go_wp2_with fail
      go_ret
      refine ⟨_, rfl, ?_, HB.out⟩
      rw [HS.out]
      have := HO.out
      rw [hkn.out] at this
      exact this
theorem own_base {w : World} {B n size : Nat} {e : TypeId} {v : Value} {xs : List Value} (h : w.ownsRow B e size v n xs) : w.ownsRow 0 e size v n xs := by
  refine ⟨h.1, ?_⟩
  rcases h.2 with h0 | ⟨g, cap, cur, h0, hB, hg, r⟩
  · exact Or.inl h0
  · exact Or.inr ⟨g, cap, cur, h0, Nat.zero_le _, hg, r⟩
theorem own_form {w : World} {B n size : Nat} {e : TypeId} {v : Value} {xs : List Value} (h : w.ownsRow B e size v n xs) : (∃ b cap, v = .slice b n cap) ∧ ∀ g, v.ownBlock = some g → B ≤ g := by
  rcases h.2 with ⟨h0, hn⟩ | ⟨g, cap, cur, h0, hB, hg, r⟩
  · rw [h0, hn]; exact ⟨⟨none, 0, rfl⟩, by intro g hg; cases hg⟩
  · rw [h0]; exact ⟨⟨_, _, rfl⟩, by intro g' hg'; simp only [Value.ownBlock, Option.some.injEq] at hg'; omega⟩
theorem built_rdisk (q n : Nat) (b : Option Addr) (cap : Nat) : Try.prog.built 73 [(0, .pointer (some ⟨q, 0, none⟩)), (1, .int .i64 (n : Int)), (2, .slice b n cap)] = some [Value.pointer (some ⟨q, 0, none⟩), natv n, .slice b n cap, .slice none 0 0, .bool false, .int .i64 0].toArray := by kernel_rfl
theorem blank_wide (n : Nat) : ∀ s ∈ blankS n, s.length = 64 := by intro s hs; rw [blankS] at hs; rw [List.eq_of_mem_replicate hs, List.length_replicate]
set_option maxRecDepth 100000 in
theorem rnew_ok (q n : Nat) (h1 : 1 ≤ n) (hn : n ≤ 8192) (w : World) (hq : q < w.heap.size) : Calls Try.prog 8 #[.pointer (some ⟨q, 0, none⟩), .int .i64 n] w fun e w' => ∃ r G, e = .returned (.pointer (some ⟨r, 0, none⟩)) ∧ RDisk r q G n (blankS n) [] false 0 w' ∧ (∀ x ∈ G, w.heap.size ≤ x) ∧ Below w.heap.size w w' := by
  go_enter Try.func8, Try.ntmps8
  go_wp2_with fail
  refine (rblanks_any n hn _).mono ?_
  rintro e w1 ⟨v, rfl, hown, hb⟩
  obtain ⟨⟨b, cap, rfl⟩, hge⟩ := own_form hown
  have hz := hb.size
  have hb1 := built_rdisk q n b cap
  obtain ⟨cs, hcs⟩ : ∃ cs, cs = [Value.pointer (some ⟨q, 0, none⟩), natv n, .slice b n cap, .slice none 0 0, .bool false, .int .i64 0] := ⟨_, rfl⟩
  rw [← hcs] at hb1
  have hbw : ∀ (act : Act) (w : World), act.eval (.tmp 5) = .pointer (some ⟨q, 0, none⟩) → act.eval (.tmp 6) = .int .i64 (n : Int) → act.eval (.tmp 8) = .slice b n cap → (Instr.build 73 ((#[(0, .tmp 5), (1, .tmp 6), (2, .tmp 8)] : Array (Nat × Operand)).map fun (i, x) => (i, act.eval x))).run Try.prog w = .ok (.agg cs.toArray) w := by
    intro act w h1 h2 h3
    refine run_build w _ _ _ ?_
    rw [← hb1]; simp [h1, h2, h3]
  have HBW := Lib.hid hbw
  have HCS := Lib.hid hcs
  have HO := Lib.hid hown
  have HB := Lib.hid hb
  have HGE := Lib.hid hge
  clear hb1 hbw hcs hown hb hge
  go_wp2_with (first | (refine wpList_build rfl 73 _ rfl cs (HBW.out _ _ rfl rfl rfl) ?_; go_frame) | fail)
  go_ret
  have hlt : ∀ g, (Value.slice b n cap).ownBlock = some g → g < w1.heap.size := fun g hg => (HO.out.lt g hg).2
  refine ⟨w1.heap.size, w1.heap.size :: (Value.slice b n cap).ownBlock.toList, rfl, ⟨.slice b n cap, .slice none 0 0, ⟨?_, own_base (HO.out.alloc _), ⟨rfl, .inl ⟨rfl, rfl⟩⟩, h1, hn, blank_wide n, by simp, by simp, by omega, fun g hg => ?_, (by intro g hg; cases hg)⟩, by simp, fun g hg => by simp [hg], (by intro g hg; cases hg), ?_, ?_⟩, ?_, HB.out.alloc hz _⟩
  · rw [HCS.out]; exact heap_alloc_new _ _
  · have := hlt g hg
    have := HGE.out g hg
    omega
  · intro hm
    rcases List.mem_cons.1 hm with hm | hm
    · omega
    · have := HGE.out q (Option.mem_toList.1 hm); omega
  · intro x hx
    rw [World.size_alloc]
    rcases List.mem_cons.1 hx with rfl | hx
    · omega
    · have := hlt x (Option.mem_toList.1 hx); omega
  · intro x hx
    rcases List.mem_cons.1 hx with rfl | hx
    · exact hz
    · exact HGE.out x (Option.mem_toList.1 hx)
theorem RAt.setHas {r q n : Nat} {hv hv' : Value} {S S' : List (List UInt8)} {dead : Bool} {life : Int} {w : World} (h : RAt r q hv (.slice none 0 0) n S [] dead life w) (ho : w.ownsRow 0 9 1 hv' n (S'.map sv)) (hw : ∀ s ∈ S', s.length = 64) (hg : ∀ g, hv'.ownBlock = some g → g ≠ r ∧ g ≠ q) :
    RAt r q hv' (.slice none 0 0) n S' [] dead life (w.setCell ⟨r, 2, none⟩ hv') := by
  refine ⟨set_list h.obj 2 _, ?_, ⟨rfl, .inl ⟨rfl, rfl⟩⟩, h.n1, h.n2, hw, by simp, by simp, h.q0, hg, (by intro g hg; cases hg)⟩
  exact own_keep ho (fun x hx => heap_setCell_other _ _ _ _ (fun e => (hg x hx).1 e))
theorem rreplace_ok {r q n : Nat} {S : List (List UInt8)} {ps : List Dk.Wr} {dead : Bool} {life : Int} {w : World} {G : List Nat} (h : RDisk r q G n S ps dead life w) (hql : q < w.heap.size) (hl0 : 0 ≤ life) (hl : life ≤ 1000000000000) :
    Calls Try.prog 29 #[.pointer (some ⟨r, 0, none⟩)] w fun e w' => e = .returned (.tuple #[]) ∧ ∃ G', RDisk r q G' n (blankS n) [] false (life + 1) w' ∧ (∀ x ∈ G', x ∈ G ∨ w.heap.size ≤ x) ∧ Kept w.heap.size G w w' := by
  obtain ⟨hv, wv, h, g1, g2, g3, g4, g5⟩ := h
  have c1 := h.c1
  have c2 := h.c2
  have c3 := h.c3
  have c4 := h.c4
  have c5 := h.c5
  have f2 := h.free 2
  have f3 := h.free 3
  have f4 := h.free 4
  have f5 := h.free 5
  have hrl := h.lt
  have hn2 := h.n2
  have H := Lib.hid h
  have HG := Lib.hid (And.intro g1 (And.intro g2 (And.intro g3 (And.intro g4 g5))))
  obtain ⟨wa, hwa⟩ : ∃ wa, wa = (w.setCell ⟨r, 4, none⟩ (.bool false)).setCell ⟨r, 3, none⟩ (.slice none 0 0) := ⟨_, rfl⟩
  have hka : Kept w.heap.size [r] w wa := by rw [hwa]; exact ((Kept.refl _ _ _).setCell (p := ⟨r, 4, none⟩) (by simp) _).setCell (p := ⟨r, 3, none⟩) (by simp) _
  have hra : RAt r q hv (.slice none 0 0) n S [] false life wa := by rw [hwa]; exact (h.setDead false).clear.1
  have HRA := Lib.hid hra
  have HKA := Lib.hid hka
  have HWA := Lib.hid hwa
  clear h g1 g2 g3 g4 g5 hka hra hwa
  go_enter Try.func29, Try.ntmps29
  go_wp2_with fail
  rw [← HWA.out]
  refine (rblanks_any n hn2 _).mono ?_
  rintro e w1 ⟨v, rfl, hown, hb⟩
  have hza := HKA.out.size
  obtain ⟨⟨b, cap, rfl⟩, hge⟩ := own_form hown
  have h1 := HRA.out.keep (w' := w1) (hb.block r (by omega)) (fun x hx => hb.block x (HRA.out.has.lt x hx).2) (by intro x hx; cases hx)
  have h2 := h1.setHas (own_base hown) (blank_wide n) (fun g hg => by have := hge g hg; omega)
  have h3 := h2.setLife (life + 1)
  have d2 := h1.c2
  have d5 := h1.c5
  have e2 := h1.free 2
  have e5 := h1.free 5
  have hlt : ∀ g, (Value.slice b n cap).ownBlock = some g → g < w1.heap.size := fun g hg => (hown.lt g hg).2
  have HGE := Lib.hid hge
  have HLT := Lib.hid hlt
  have H3 := Lib.hid h3
  have HB := Lib.hid hb
  clear hge hlt h1 h2 h3 hb hown c1 c2 c3 c4 c5 f2 f3 f4 f5
  go_wp2_with fail
  go_end0
  obtain ⟨q1, q2, q3, q4, q5⟩ := HG.out
  have hz1 := HB.out.size
  have hk : Kept w.heap.size [r] w ((w1.setCell ⟨r, 2, none⟩ (.slice b n cap)).setCell ⟨r, 5, none⟩ (.int .i64 (life + 1))) :=
    ((HKA.out.trans ((Kept.of_below HB.out).mono hza (fun _ _ h => h))).setCell (p := ⟨r, 2, none⟩) (by simp) _).setCell (p := ⟨r, 5, none⟩) (by simp) _
  have hz := hk.size
  refine ⟨rfl, r :: (Value.slice b n cap).ownBlock.toList, ⟨.slice b n cap, .slice none 0 0, H3.out, by simp, fun g hg => by simp [hg], (by intro x hx; cases hx), ?_, ?_⟩, ?_, hk.mono (Nat.le_refl _) (fun x _ hm => ?_)⟩
  · intro hm
    rcases List.mem_cons.1 hm with hm | hm
    · exact q4 (hm ▸ q1)
    · have := HGE.out q (Option.mem_toList.1 hm); omega
  · intro x hx
    have hsz : ((w1.setCell ⟨r, 2, none⟩ (.slice b n cap)).setCell ⟨r, 5, none⟩ (.int .i64 (life + 1))).heap.size = w1.heap.size := by simp [World.setCell]
    rw [hsz]
    rcases List.mem_cons.1 hx with rfl | hx
    · omega
    · exact HLT.out x (Option.mem_toList.1 hx)
  · intro x hx
    rcases List.mem_cons.1 hx with rfl | hx
    · exact Or.inl q1
    · right; have := HGE.out x (Option.mem_toList.1 hx); omega
  · simp only [List.mem_cons, List.not_mem_nil, or_false] at hm
    exact hm ▸ q1
end Go.Proofs.Ytkpnllaegkdkkaa
