/- JSON as plain functions on lists of bytes: what a text tells, and where it is wrong (by what is left of it). -/
import Derived.Test.YthfnlnhehececaaDoorProg
namespace Go.Proofs.YthfnlnhehececaaDoor

namespace Js
/-- A value: its kind (1 null, 2 false, 3 true, 4 a number, 5 a text, 6 a list, 7 an object), its text, its names, what is in it. -/
inductive J where
  | mk (k : Int) (t : List UInt8) (ns : List (List UInt8)) (ks : List J)
/-- What a reader tells: something and what is left, or what is wrong and what is left there. -/
inductive Rs (α : Type) where
  | ok (a : α) (r : List UInt8)
  | bad (c : Nat) (r : List UInt8)
def Rs.bind {α β : Type} : Rs α → (α → List UInt8 → Rs β) → Rs β
  | .ok a r, f => f a r
  | .bad c r, _ => .bad c r
def Rs.map {α β : Type} (f : α → β) : Rs α → Rs β
  | .ok a r => .ok (f a) r
  | .bad c r => .bad c r
def isWs (c : UInt8) : Bool := c == 32 || c == 9 || c == 10 || c == 13
def ws : List UInt8 → List UInt8
  | [] => []
  | c :: r => if isWs c then ws r else c :: r
/-- A byte that must stand here. -/
def tk (b : UInt8) : List UInt8 → Rs Unit
  | [] => .bad 54 []
  | c :: r => if c == b then .ok () r else .bad 54 (c :: r)
/-- Bytes that must stand here. -/
def wd : List UInt8 → List UInt8 → Rs Unit
  | [], l => .ok () l
  | b :: w, l => (tk b l).bind fun _ r => wd w r
/-- A sixteenth's number. -/
def hv (c : UInt8) : Option Nat :=
  if 48 ≤ c.toNat ∧ c.toNat ≤ 57 then some (c.toNat - 48)
  else if 97 ≤ c.toNat ∧ c.toNat ≤ 102 then some (c.toNat - 97 + 10)
  else if 65 ≤ c.toNat ∧ c.toNat ≤ 70 then some (c.toNat - 65 + 10)
  else none
/-- So many sixteenths, of an escape that began at b. -/
def un (b : List UInt8) : Nat → Nat → List UInt8 → Rs Nat
  | 0, a, l => .ok a l
  | _ + 1, _, [] => .bad 54 []
  | n + 1, a, c :: r =>
    match hv c with
    | none => .bad 54 b
    | some v => un b n (16 * a + v) r
/-- A character's bytes. -/
def enc (c : Nat) : List UInt8 :=
  if c < 128 then [UInt8.ofNat c]
  else if c < 2048 then [UInt8.ofNat (192 + c / 64), UInt8.ofNat (128 + c % 64)]
  else if c < 65536 then [UInt8.ofNat (224 + c / 4096), UInt8.ofNat (128 + c / 64 % 64), UInt8.ofNat (128 + c % 64)]
  else [UInt8.ofNat (240 + c / 262144), UInt8.ofNat (128 + c / 4096 % 64), UInt8.ofNat (128 + c / 64 % 64), UInt8.ofNat (128 + c % 64)]
/-- A half of a character; a second half; both halves' character. -/
def half (c : Nat) : Bool := c / 2048 == 27
def lowH (c : Nat) : Bool := c / 1024 == 55
theorem half_iff (c : Nat) : half c = true ↔ 55296 ≤ c ∧ c ≤ 57343 := by unfold half; rw [beq_iff_eq]; omega
theorem lowH_iff (c : Nat) : lowH c = true ↔ 56320 ≤ c ∧ c ≤ 57343 := by unfold lowH; rw [beq_iff_eq]; omega
def both (c m : Nat) : Nat := 65536 + 1024 * (c - 55296) + (m - 56320)
theorem both_eq (c m : Nat) : both c m = 65536 + 1024 * (c - 55296) + (m - 56320) := rfl
attribute [irreducible] both
/-- The second half of a character, of an escape that began at b: its number. -/
def low (b : List UInt8) (c : Nat) (l : List UInt8) : Rs Nat :=
  (un b 4 0 l).bind fun m r => if lowH m then .ok (both c m) r else .bad 54 b
/-- A byte of what goes between the halves. -/
def tz (b : List UInt8) (x : UInt8) : List UInt8 → Rs Unit
  | [] => .bad 54 []
  | c :: r => if c == x then .ok () r else .bad 54 b
/-- The character of an escape that began at b, behind its u: its number. -/
def cod (b l : List UInt8) : Rs Nat :=
  (un b 4 0 l).bind fun c r =>
    if half c then (if lowH c then .bad 54 b else (tz b 92 r).bind fun _ r2 => (tz b 117 r2).bind fun _ r3 => low b c r3)
    else .ok c r
/-- What an escape's letter tells. -/
def sim (c : UInt8) : Option Nat :=
  if c == 34 then some 34 else if c == 92 then some 92 else if c == 47 then some 47
  else if c == 98 then some 8 else if c == 102 then some 12 else if c == 110 then some 10
  else if c == 114 then some 13 else if c == 116 then some 9 else none
/-- An escape, which begins here, at its backslash: its character's number. -/
def esc (l : List UInt8) : Rs Nat :=
  match l.tail with
  | [] => .bad 54 []
  | c :: r =>
    match sim c with
    | some x => .ok x r
    | none => if c == 117 then cod l r else .bad 54 l
def cont (c : UInt8) : Bool := decide (128 ≤ c.toNat) && decide (c.toNat ≤ 191)
/-- The character that stands here: its number and how many bytes it has; none: it is none. -/
def u8c : List UInt8 → Option (Nat × Nat)
  | [] => none
  | a :: r =>
    if a.toNat < 128 then some (a.toNat, 1)
    else if 194 ≤ a.toNat ∧ a.toNat < 224 then
      match r with
      | b :: _ => if cont b then some (64 * (a.toNat - 192) + (b.toNat - 128), 2) else none
      | _ => none
    else if 224 ≤ a.toNat ∧ a.toNat < 240 then
      match r with
      | b :: c :: _ =>
        if cont b && cont c then
          let n := 4096 * (a.toNat - 224) + 64 * (b.toNat - 128) + (c.toNat - 128)
          if n < 2048 ∨ 55296 ≤ n ∧ n ≤ 57343 then none else some (n, 3)
        else none
      | _ => none
    else if 240 ≤ a.toNat ∧ a.toNat < 245 then
      match r with
      | b :: c :: d :: _ =>
        if cont b && cont c && cont d then
          let n := 262144 * (a.toNat - 240) + 4096 * (b.toNat - 128) + 64 * (c.toNat - 128) + (d.toNat - 128)
          if n < 65536 ∨ 1114111 < n then none else some (n, 4)
        else none
      | _ => none
    else none
/-- A character of a text: its number. -/
def chr (l : List UInt8) : Rs Nat :=
  if l.head? = some 92 then esc l
  else
    match u8c l with
    | none => .bad 54 l
    | some (c, n) => if c < 32 then .bad 54 l else .ok c (l.drop n)
/-- The rest of a text, behind its first quote (with so much breath). -/
def tx : Nat → List UInt8 → Rs (List UInt8)
  | 0, l => .bad 54 l
  | n + 1, l =>
    if l.head? = some 34 then .ok [] l.tail
    else (chr l).bind fun c r => (tx n r).map (enc c ++ ·)
/-- A text, at its quote. -/
def quoted (l : List UInt8) : Rs (List UInt8) := (tk 34 l).bind fun _ r => tx (r.length + 1) r
def isDg (c : UInt8) : Bool := decide (48 ≤ c.toNat) && decide (c.toNat ≤ 57)
/-- How many digits stand at the front. -/
def dgs : List UInt8 → Nat
  | [] => 0
  | c :: r => if isDg c then dgs r + 1 else 0
/-- Where the digits end that stand at a place, and whether there are any. -/
def bDig (l : List UInt8) (a : Nat) : Nat × Bool := (a + dgs (l.drop a), decide (0 < dgs (l.drop a)))
def bInt (l : List UInt8) : Nat × Bool :=
  let a := if l.head? = some 45 then 1 else 0
  if (l.drop a).head? = some 48 then (a + 1, true) else bDig l a
def bFrac (l : List UInt8) (x : Nat × Bool) : Nat × Bool :=
  if x.2 = true ∧ (l.drop x.1).head? = some 46 then bDig l (x.1 + 1) else x
def isE (o : Option UInt8) : Bool := o == some 101 || o == some 69
def isPm (o : Option UInt8) : Bool := o == some 43 || o == some 45
def bExp (l : List UInt8) (x : Nat × Bool) : Nat × Bool :=
  if x.2 = true ∧ isE (l.drop x.1).head? = true then
    bDig l (if isPm (l.drop (x.1 + 1)).head? = true then x.1 + 2 else x.1 + 1)
  else x
/-- How many bytes at the front go on with a number, and whether they are a whole one. -/
def nsz (l : List UInt8) : Nat × Bool := bExp l (bFrac l (bInt l))
def num (l : List UInt8) : Rs J := if (nsz l).2 then .ok (.mk 4 (l.take (nsz l).1) [] []) (l.drop (nsz l).1) else .bad 54 (l.drop (nsz l).1)
/-- The members of a list or an object that has begun; fst: none was read yet. -/
def mems {α : Type} (e : UInt8) (f : List UInt8 → Rs α) : Nat → Bool → List UInt8 → Rs (List α)
  | 0, _, l => .bad 54 l
  | n + 1, fst, l =>
    if l.head? = some e then .ok [] l.tail
    else (if fst then .ok () l else (tk 44 l).bind fun _ r => .ok () (ws r)).bind fun _ l1 =>
      (f l1).bind fun a r => (mems e f n false (ws r)).map (a :: ·)
/-- A member of an object: its name and its value. -/
def mem (f : List UInt8 → Rs J) (l : List UInt8) : Rs (List UInt8 × J) :=
  (quoted l).bind fun nm r => (tk 58 (ws r)).bind fun _ r2 => (f (ws r2)).map fun j => (nm, j)
/-- A value, which begins here; what is within a list or an object is read by the one that is handed in, if there may be any. -/
def vstep (f : Option (List UInt8 → Rs J)) (l : List UInt8) : Rs J :=
  if l.head? = some 110 then (wd [110, 117, 108, 108] l).map fun _ => .mk 1 [] [] []
  else if l.head? = some 102 then (wd [102, 97, 108, 115, 101] l).map fun _ => .mk 2 [] [] []
  else if l.head? = some 116 then (wd [116, 114, 117, 101] l).map fun _ => .mk 3 [] [] []
  else if l.head? = some 34 then (quoted l).map fun t => .mk 5 t [] []
  else if l.head? = some 91 then
    match f with
    | none => .bad 57 l
    | some g => (mems 93 g (l.length + 1) true (ws l.tail)).map fun ks => .mk 6 [] [] ks
  else if l.head? = some 123 then
    match f with
    | none => .bad 57 l
    | some g => (mems 125 (mem g) (l.length + 1) true (ws l.tail)).map fun ms => .mk 7 [] (ms.map (·.1)) (ms.map (·.2))
  else num l
def val : Nat → List UInt8 → Rs J
  | 0 => vstep none
  | d + 1 => vstep (some (val d))
/-- A whole text: its value, or what is wrong and where. -/
inductive Pr where
  | ok (j : J)
  | bad (c p : Nat)
def parse (s : List UInt8) : Pr :=
  if 8000 < s.length then .bad 56 0
  else
    match val 20 (ws s) with
    | .bad c r => .bad c (s.length - r.length)
    | .ok j r => if (ws r).isEmpty then .ok j else .bad 54 (s.length - (ws r).length)
end Js
end Go.Proofs.YthfnlnhehececaaDoor
