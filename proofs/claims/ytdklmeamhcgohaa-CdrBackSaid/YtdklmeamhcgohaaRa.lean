/-
  PROVED HERE: facts of plain bytes: what a reader reads of them, and where they are wrong.
-/
import Derived.Test.YtdklmeamhcgohaaActs
import Derived.Test.YtdklmeamhcgohaaI
namespace Go.Proofs.Ytdklmeamhcgohaa
open Go.RowKit

/-- The first of n bytes from i on that is no zero, or that is missing. -/
def firstBad (l : List UInt8) : Nat → Nat → Option Nat
  | _, 0 => none
  | i, n + 1 => if l[i]? = some 0 then firstBad l (i + 1) n else some i

theorem firstBad_zero (l : List UInt8) (i : Nat) : firstBad l i 0 = none := by unfold firstBad; rfl
theorem firstBad_step (l : List UInt8) (i n : Nat) (h : l[i]? = some 0) : firstBad l i (n + 1) = firstBad l (i + 1) n := by rw [firstBad, if_pos h]
theorem firstBad_stop (l : List UInt8) (i n : Nat) (h : l[i]? ≠ some 0) : firstBad l i (n + 1) = some i := by rw [firstBad, if_neg h]

theorem at_lt {l : List UInt8} {i : Nat} {u : UInt8} (h : l[i]? = some u) : i < l.length := (List.getElem?_eq_some_iff.1 h).1

theorem firstBad_some (l : List UInt8) : ∀ (n i j : Nat), i ≤ l.length → firstBad l i n = some j → i ≤ j ∧ j < i + n ∧ j ≤ l.length
  | 0, i, j, _, h => by rw [firstBad_zero] at h; cases h
  | n + 1, i, j, hi, h => by
    by_cases h0 : l[i]? = some 0
    · rw [firstBad_step l i n h0] at h
      have := firstBad_some l n (i + 1) j (at_lt h0) h
      omega
    · rw [firstBad_stop l i n h0] at h
      cases h
      omega

theorem firstBad_none (l : List UInt8) : ∀ (n i : Nat), i ≤ l.length → firstBad l i n = none → i + n ≤ l.length
  | 0, i, hi, _ => hi
  | n + 1, i, hi, h => by
    by_cases h0 : l[i]? = some 0
    · rw [firstBad_step l i n h0] at h
      have := firstBad_none l n (i + 1) (at_lt h0) h
      omega
    · rw [firstBad_stop l i n h0] at h
      cases h

/-- BYTES ARE THE SAME below m. -/
def Same (l l' : List UInt8) (m : Nat) : Prop := l'.length = l.length ∧ ∀ j, j < m → l'[j]? = l[j]?

theorem Same.less {l l' : List UInt8} {m n : Nat} (h : Same l l' m) (hn : n ≤ m) : Same l l' n := ⟨h.1, fun j hj => h.2 j (by omega)⟩

theorem firstBad_same_some {l l' : List UInt8} {m : Nat} (h : Same l l' m) : ∀ (n i j : Nat), j < m → firstBad l i n = some j → firstBad l' i n = some j
  | 0, i, j, _, hf => by rw [firstBad_zero] at hf; cases hf
  | n + 1, i, j, hj, hf => by
    by_cases h0 : l[i]? = some 0
    · rw [firstBad_step l i n h0] at hf
      have hij : i + 1 ≤ j := (firstBad_some l n (i + 1) j (at_lt h0) hf).1
      have h1 : l'[i]? = some 0 := (h.2 i (by omega)).trans h0
      rw [firstBad_step l' i n h1]
      exact firstBad_same_some h n (i + 1) j hj hf
    · rw [firstBad_stop l i n h0] at hf
      cases hf
      exact firstBad_stop l' i n (by rw [h.2 i hj]; exact h0)

theorem firstBad_same_none {l l' : List UInt8} {m : Nat} (h : Same l l' m) : ∀ (n i : Nat), i + n ≤ m → firstBad l i n = none → firstBad l' i n = none
  | 0, i, _, _ => firstBad_zero l' i
  | n + 1, i, hi, hf => by
    by_cases h0 : l[i]? = some 0
    · rw [firstBad_step l i n h0] at hf
      rw [firstBad_step l' i n ((h.2 i (by omega)).trans h0)]
      exact firstBad_same_none h n (i + 1) (by omega) hf
    · rw [firstBad_stop l i n h0] at hf
      cases hf

/-- The number that bytes are, the first of them the highest. -/
def hiN (l : List UInt8) : Nat := l.foldl (fun u b => u * 256 + b.toNat) 0
theorem hiN_nil : hiN [] = 0 := rfl
theorem hiN_snoc (l : List UInt8) (b : UInt8) : hiN (l ++ [b]) = hiN l * 256 + b.toNat := by simp [hiN, List.foldl_append]
theorem hiN_fold (l : List UInt8) : ∀ u : Nat, l.foldl (fun u b => u * 256 + b.toNat) u = u * 256 ^ l.length + hiN l := by
  induction l with
  | nil => intro u; simp [hiN]
  | cons b l ih =>
    intro u
    have h0 : hiN (b :: l) = b.toNat * 256 ^ l.length + hiN l := by
      show l.foldl (fun u b => u * 256 + b.toNat) (0 * 256 + b.toNat) = _
      rw [ih]; simp
    rw [List.foldl_cons, ih, h0, List.length_cons, Nat.pow_succ, Nat.add_mul]
    rw [Nat.mul_assoc, Nat.mul_comm 256 (256 ^ l.length), Nat.add_assoc]
theorem hiN_cons (b : UInt8) (l : List UInt8) : hiN (b :: l) = b.toNat * 256 ^ l.length + hiN l := by
  show l.foldl (fun u b => u * 256 + b.toNat) (0 * 256 + b.toNat) = _
  rw [hiN_fold]; simp
theorem hiN_lt (l : List UInt8) : hiN l < 256 ^ l.length := by
  induction l with
  | nil => simp [hiN]
  | cons b l ih =>
    rw [hiN_cons, List.length_cons, Nat.pow_succ]
    have hb : b.toNat ≤ 255 := by have := b.toNat_lt; omega
    have : b.toNat * 256 ^ l.length ≤ 255 * 256 ^ l.length := Nat.mul_le_mul_right _ hb
    omega

/-- The number that bytes are in an order. -/
def valU (big : Bool) (l : List UInt8) : Nat := hiN (if big then l else l.reverse)
theorem valU_lt (big : Bool) (l : List UInt8) : valU big l < 256 ^ l.length := by
  unfold valU
  cases big
  · have := hiN_lt l.reverse; rw [List.length_reverse] at this; simpa using this
  · simpa using hiN_lt l

/-- k bytes from i on. -/
def pieceL (l : List UInt8) (i k : Nat) : List UInt8 := (l.drop i).take k
theorem pieceL_length (l : List UInt8) (i k : Nat) (h : i + k ≤ l.length) : (pieceL l i k).length = k := by simp [pieceL]; omega
theorem pieceL_at (l : List UInt8) (i k j : Nat) (hj : j < k) : (pieceL l i k)[j]? = l[i + j]? := by
  unfold pieceL
  rw [List.getElem?_take, if_pos hj, List.getElem?_drop]
theorem pieceL_same {l l' : List UInt8} {m : Nat} (h : Same l l' m) (i k : Nat) (hk : i + k ≤ m) : pieceL l' i k = pieceL l i k := by
  apply List.ext_getElem?
  intro j
  by_cases hj : j < k
  · rw [pieceL_at _ _ _ _ hj, pieceL_at _ _ _ _ hj, h.2 _ (by omega)]
  · rw [List.getElem?_eq_none (by simp [pieceL]; omega), List.getElem?_eq_none (by simp [pieceL]; omega)]

/-- A number of k bytes with its sign. -/
def sgN (k : Nat) (u : Nat) : Int := if k = 1 then (u : Int) else if k = 2 then IntKind.i16.wrap u else if k = 4 then IntKind.i32.wrap u else IntKind.i64.wrap u

/-- What an act tells: a number, bytes, an error; then the next byte's index, and whether something was wrong. -/
structure RR where
  n : Int
  t : ByteArray
  e : Int
  i : Nat
  w : Bool

def errW (w : Bool) : Int := if w then 12 else 0
def noB : ByteArray := ⟨#[]⟩

/-- How many bytes of padding. -/
def padK' (a : Int) (i k : Nat) : Nat := (padN (a + i) (k : Int)).toNat
theorem padK'_lt (a : Int) (i k : Nat) (hk : 1 ≤ k) : padK' a i k < k := by have := padN_bd (a + i) (k : Int) (by omega); unfold padK'; omega
theorem padK'_eq (a : Int) (i k : Nat) (hk : 1 ≤ k) : padN (a + i) (k : Int) = padK' a i k := by have := padN_bd (a + i) (k : Int) (by omega); unfold padK'; omega

/-- What reading an unsigned number of k bytes does: the next index, whether it is wrong, the number. -/
def numR (l : List UInt8) (big : Bool) (a : Int) (k i : Nat) (wr : Bool) : Nat × Bool × Nat :=
  if wr then (i, true, 0) else
  match firstBad l i (padK' a i k) with
  | some j => (j, true, 0)
  | none => if i + padK' a i k + k ≤ l.length then (i + padK' a i k + k, false, valU big (pieceL l (i + padK' a i k) k)) else (l.length, true, 0)

theorem numR_wrong (l : List UInt8) (big : Bool) (a : Int) (k i : Nat) : numR l big a k i true = (i, true, 0) := rfl
theorem numR_pad (l : List UInt8) (big : Bool) (a : Int) (k i j : Nat) (h : firstBad l i (padK' a i k) = some j) : numR l big a k i false = (j, true, 0) := by simp [numR, h]
theorem numR_end (l : List UInt8) (big : Bool) (a : Int) (k i : Nat) (h : firstBad l i (padK' a i k) = none) (h2 : l.length < i + padK' a i k + k) : numR l big a k i false = (l.length, true, 0) := by
  have : ¬ i + padK' a i k + k ≤ l.length := by omega
  simp [numR, h, this]
theorem numR_ok (l : List UInt8) (big : Bool) (a : Int) (k i : Nat) (h : firstBad l i (padK' a i k) = none) (h2 : i + padK' a i k + k ≤ l.length) :
    numR l big a k i false = (i + padK' a i k + k, false, valU big (pieceL l (i + padK' a i k) k)) := by simp [numR, h, h2]

theorem numR_bd (l : List UInt8) (big : Bool) (a : Int) (k i : Nat) (wr : Bool) (hi : i ≤ l.length) :
    i ≤ (numR l big a k i wr).1 ∧ (numR l big a k i wr).1 ≤ l.length ∧ ((numR l big a k i wr).2.1 = false → i + k ≤ (numR l big a k i wr).1) ∧ (numR l big a k i wr).2.2 < 256 ^ k ∧ ((numR l big a k i wr).2.1 = true → (numR l big a k i wr).2.2 = 0) := by
  have hp : 0 < 256 ^ k := Nat.pow_pos (by omega)
  cases wr
  · cases h : firstBad l i (padK' a i k) with
    | some j =>
      have := firstBad_some l _ i j hi h
      rw [numR_pad l big a k i j h]
      refine ⟨this.1, this.2.2, ?_, hp, fun _ => rfl⟩
      intro h; cases h
    | none =>
      by_cases h2 : i + padK' a i k + k ≤ l.length
      · rw [numR_ok l big a k i h h2]
        have := valU_lt big (pieceL l (i + padK' a i k) k)
        rw [pieceL_length l _ _ h2] at this
        refine ⟨by simp only; omega, h2, fun _ => by simp only; omega, this, ?_⟩
        intro h; cases h
      · rw [numR_end l big a k i h (by omega)]
        refine ⟨hi, Nat.le_refl _, ?_, hp, fun _ => rfl⟩
        intro h; cases h
  · rw [numR_wrong]
    refine ⟨Nat.le_refl _, hi, ?_, hp, fun _ => rfl⟩
    intro h; cases h

/-- Reading a number of k bytes. -/
def numA (s : ByteArray) (big : Bool) (a : Int) (k i : Nat) (wr : Bool) : RR :=
  ⟨sgN k (numR (bytesOf s) big a k i wr).2.2, noB, errW (numR (bytesOf s) big a k i wr).2.1, (numR (bytesOf s) big a k i wr).1, (numR (bytesOf s) big a k i wr).2.1⟩

/-- Reading a flag. -/
def flagOf (r : Nat × Bool × Nat) : RR :=
  if r.2.1 then ⟨0, noB, 12, r.1, true⟩ else if 1 < r.2.2 then ⟨0, noB, 12, r.1 - 1, true⟩ else ⟨(r.2.2 : Int), noB, 0, r.1, false⟩
def flagA (s : ByteArray) (big : Bool) (a : Int) (i : Nat) (wr : Bool) : RR := flagOf (numR (bytesOf s) big a 1 i wr)

/-- Reading bytes with their number. -/
def cntOf (s : ByteArray) (least : Int) (r : Nat × Bool × Nat) : RR :=
  if r.2.1 then ⟨0, noB, 12, r.1, true⟩ else
  if sgN 4 r.2.2 < least ∨ (s.size : Int) - r.1 < sgN 4 r.2.2 then ⟨0, noB, 12, r.1 - 4, true⟩ else ⟨0, s.extract r.1 (r.1 + (sgN 4 r.2.2).toNat), 0, r.1 + (sgN 4 r.2.2).toNat, false⟩
def cntA (s : ByteArray) (big : Bool) (a : Int) (least : Int) (i : Nat) (wr : Bool) : RR := cntOf s least (numR (bytesOf s) big a 4 i wr)

/-- Reading a text, out of what was counted. -/
def textOf (r : RR) : RR :=
  if r.w then ⟨0, noB, 12, r.i, true⟩ else
  if Lib.indexByte (bytesOf r.t) 0 < 0 then ⟨0, noB, 12, r.i - 1, true⟩ else
  if Lib.indexByte (bytesOf r.t) 0 < (r.t.size : Int) - 1 then ⟨0, noB, 12, r.i - r.t.size + (Lib.indexByte (bytesOf r.t) 0).toNat, true⟩ else
  ⟨0, r.t.extract 0 (Lib.indexByte (bytesOf r.t) 0).toNat, 0, r.i, false⟩
def textA (s : ByteArray) (big : Bool) (a : Int) (i : Nat) (wr : Bool) : RR := textOf (cntA s big a 1 i wr)

/-- Taking bytes as they are. -/
def rawA (s : ByteArray) (n : Int) (i : Nat) (wr : Bool) : RR :=
  if wr then ⟨0, noB, 12, i, true⟩ else if n < 0 then ⟨0, noB, 7, i, false⟩ else
  if (s.size : Int) - i < n then ⟨0, noB, 12, s.size, true⟩ else ⟨0, s.extract i (i + n.toNat), 0, i + n.toNat, false⟩

/-- Skipping padding. -/
def algA (s : ByteArray) (a n : Int) (i : Nat) (wr : Bool) : RR :=
  if wr then ⟨0, noB, 12, i, true⟩ else if szB n then
    match firstBad (bytesOf s) i (padK' a i n.toNat) with
    | some j => ⟨0, noB, 12, j, true⟩
    | none => ⟨0, noB, 0, i + padK' a i n.toNat, false⟩
  else ⟨0, noB, 7, i, false⟩

/-- What an act tells. -/
def rdA (s : ByteArray) (big : Bool) (a k n : Int) (i : Nat) (wr : Bool) : RR :=
  if k = 0 then numA s big a 1 i wr else if k = 1 then flagA s big a i wr else if k = 2 then numA s big a 2 i wr else if k = 3 then numA s big a 4 i wr else if k = 4 then numA s big a 8 i wr else
  if k = 5 then textA s big a i wr else if k = 6 then cntA s big a 0 i wr else if k = 7 then rawA s n i wr else algA s a n i wr

end Go.Proofs.Ytdklmeamhcgohaa
