/-
  PROVED HERE: what was written is read: over plain bytes.
-/
import Derived.Test.YtdklmeamhcgohaaFb
import Derived.Test.YtdklmeamhcgohaaS
import Derived.Test.YtdklmeamhcgohaaL
namespace Go.Proofs.Ytdklmeamhcgohaa
open Go.RowKit

/-- The bytes of a number, the lowest first. -/
def lowL (n : Int) (k : Nat) : List UInt8 := (List.range k).map (byteN n)
theorem lowL_succ (n : Int) (k : Nat) : lowL n (k + 1) = lowL n k ++ [byteN n k] := by simp [lowL, List.range_succ]
theorem lowL_length (n : Int) (k : Nat) : (lowL n k).length = k := by simp [lowL]
theorem numB_low (n : Int) (k : Nat) : numB n false k = lowL n k := by simp [numB, shs, lowL, byteN, sh]
theorem numB_high (n : Int) (k : Nat) : numB n true k = (lowL n k).reverse := by
  apply List.ext_getElem
  · simp [numB, shs, lowL]
  · intro j h1 h2
    have hj : j < k := by simpa [numB, shs] using h1
    rw [List.getElem_reverse]
    simp only [numB, shs, lowL, List.getElem_map, List.getElem_range, List.length_map, List.length_range, byteN, sh, if_true]
    rw [show ((k - 1 - j : Nat) : Int) = (k : Int) - 1 - j by omega]

theorem byteN_nat (n : Int) (k : Nat) (hk : k < 8) : (byteN n k).toNat = (n % 18446744073709551616).toNat / 256 ^ k % 256 := by
  have h := byteN_val n k hk
  rw [IntKind.wrap_u64] at h
  have h0 : 0 ≤ n % 18446744073709551616 := Int.emod_nonneg _ (by omega)
  obtain ⟨N, hN⟩ : ∃ N : Nat, n % 18446744073709551616 = N := ⟨_, (Int.toNat_of_nonneg h0).symm⟩
  rw [hN] at h ⊢
  rw [Int.toNat_natCast, p256]
  have h2 : ((2 : Int) ^ (8 * k)) = ((2 ^ (8 * k) : Nat) : Int) := by push_cast; rfl
  rw [h2, ← Int.natCast_ediv] at h
  omega

theorem low_val (n : Int) : ∀ k, k ≤ 8 → hiN (lowL n k).reverse = (n % 18446744073709551616).toNat % 256 ^ k
  | 0, _ => by simp [lowL, hiN, Nat.mod_one]
  | k + 1, hk => by
    rw [lowL_succ, List.reverse_append, List.reverse_singleton, List.singleton_append, hiN_cons, List.length_reverse, lowL_length, low_val n k (by omega), byteN_nat n k (by omega), Nat.mod_pow_succ, Nat.mul_comm]
    omega

theorem valU_numB (n : Int) (big : Bool) (k : Nat) (hk : k ≤ 8) : valU big (numB n big k) = (n % 18446744073709551616).toNat % 256 ^ k := by
  rw [← low_val n k hk]
  cases big
  · rw [numB_low]; rfl
  · rw [numB_high]; rfl

theorem numB_length (n : Int) (big : Bool) (k : Nat) : (numB n big k).length = k := by simp [numB, shs_length]

theorem sg_back (n : Int) (k : Nat) (hk : k = 1 ∨ k = 2 ∨ k = 4) (hf : fitsN k n = true) : sgN k ((n % 18446744073709551616).toNat % 256 ^ k) = n := by
  have h0 : 0 ≤ n % 18446744073709551616 := Int.emod_nonneg _ (by omega)
  obtain ⟨N, hN⟩ : ∃ N : Nat, n % 18446744073709551616 = N := ⟨_, (Int.toNat_of_nonneg h0).symm⟩
  rw [hN, Int.toNat_natCast]
  rcases hk with rfl | rfl | rfl
  · simp only [fitsN, if_true, decide_eq_true_eq] at hf
    rw [show sgN 1 (N % 256 ^ 1) = ((N % 256 ^ 1 : Nat) : Int) from rfl]
    omega
  · simp [fitsN] at hf
    rw [show sgN 2 (N % 256 ^ 2) = IntKind.i16.wrap ((N % 256 ^ 2 : Nat) : Int) from rfl]
    simp only [IntKind.wrap, IntKind.bits, IntKind.signed]
    simp
    omega
  · simp [fitsN] at hf
    rw [show sgN 4 (N % 256 ^ 4) = IntKind.i32.wrap ((N % 256 ^ 4 : Nat) : Int) from rfl, IntKind.wrap_i32]
    omega

theorem sg_back8 (n : Int) (h1 : -9223372036854775808 ≤ n) (h2 : n ≤ 9223372036854775807) : sgN 8 ((n % 18446744073709551616).toNat % 256 ^ 8) = n := by
  have h0 : 0 ≤ n % 18446744073709551616 := Int.emod_nonneg _ (by omega)
  obtain ⟨N, hN⟩ : ∃ N : Nat, n % 18446744073709551616 = N := ⟨_, (Int.toNat_of_nonneg h0).symm⟩
  rw [hN, Int.toNat_natCast, show sgN 8 (N % 256 ^ 8) = IntKind.i64.wrap ((N % 256 ^ 8 : Nat) : Int) from rfl, IntKind.wrap_i64]
  omega

/-- THE BYTES BEGIN WITH out, then p zeros, then body. -/
theorem zeros_read (L out body : List UInt8) (p : Nat) (h : (out ++ List.replicate p 0 ++ body) <+: L) : firstBad L out.length p = none := by
  obtain ⟨rest, rfl⟩ := h
  have key : ∀ q r, q + r = p → firstBad (out ++ List.replicate p 0 ++ body ++ rest) (out.length + q) r = none := by
    intro q r
    induction r generalizing q with
    | zero => intro _; exact firstBad_zero _ _
    | succ r ih =>
      intro hq
      have hz : (out ++ List.replicate p 0 ++ body ++ rest)[out.length + q]? = some 0 := by
        rw [show out ++ List.replicate p (0 : UInt8) ++ body ++ rest = out ++ (List.replicate p 0 ++ (body ++ rest)) by simp, List.getElem?_append_right (by omega), List.getElem?_append_left (by simp; omega), List.getElem?_replicate, if_pos (by omega)]
      rw [firstBad_step _ _ _ hz, Nat.add_assoc]
      exact ih (q + 1) (by omega)
  exact key 0 p (by omega)

theorem body_read (L out body : List UInt8) (p : Nat) (h : (out ++ List.replicate p 0 ++ body) <+: L) : pieceL L (out.length + p) body.length = body := by
  obtain ⟨rest, rfl⟩ := h
  unfold pieceL
  rw [List.append_assoc (out ++ List.replicate p 0), List.drop_append_of_le_length (by simp), show out.length + p = (out ++ List.replicate p 0).length by simp, List.drop_length, List.nil_append, List.take_left]

theorem bytesOf_inj {s t : ByteArray} (h : bytesOf s = bytesOf t) : s = t := by
  cases s; cases t
  simp only [bytesOf] at h
  congr 1
  exact Array.toList_inj.1 h

/-- A number that was written is read. -/
theorem num_back (S : ByteArray) (big : Bool) (a n : Int) (k p : Nat) (out tail : List UInt8) (hk : k ≤ 8) (hp : padK' a out.length k = p) (h : (out ++ List.replicate p 0 ++ (numB n big k ++ tail)) <+: bytesOf S) :
    numR (bytesOf S) big a k out.length false = (out.length + p + k, false, (n % 18446744073709551616).toNat % 256 ^ k) := by
  have hlen : out.length + p + k ≤ (bytesOf S).length := by
    have := h.length_le
    simp [numB_length] at this
    omega
  have hf := zeros_read _ _ _ _ h
  have h2 : (out ++ List.replicate p 0 ++ numB n big k) <+: bytesOf S := (List.prefix_append (out ++ List.replicate p 0 ++ numB n big k) tail).trans (by rw [List.append_assoc]; exact h)
  have hb := body_read _ _ _ _ h2
  rw [numB_length] at hb
  rw [numR_ok _ _ _ _ _ (by rw [hp]; exact hf) (by rw [hp]; exact hlen), hp, hb, valU_numB n big k hk]

/-- What is asked of a reader for an act, and what it should tell. -/
def askN (k n : Int) (s : ByteArray) : Int := if k = 7 then (s.size : Int) else n
def wantN (k n : Int) : Int := if k = 1 then (if n = 1 then 1 else 0) else if k < 5 then n else 0
def wantS (k : Int) (s : ByteArray) : ByteArray := if 5 ≤ k ∧ k < 8 then s else noB

/-- AN ACT THAT WAS WRITTEN BEHIND out IS READ THERE. -/
def Back (big : Bool) (a : Int) (x : ActD) (out out' : List UInt8) : Prop :=
  out <+: out' ∧ ∀ S : ByteArray, out' <+: bytesOf S → rdA S big a x.k (askN x.k x.n x.s) out.length false = ⟨wantN x.k x.n, wantS x.k x.s, 0, out'.length, false⟩

theorem prefix_out (out : List UInt8) (p : Nat) (l : List UInt8) : out <+: (out ++ List.replicate p 0 ++ l) := by rw [List.append_assoc]; exact List.prefix_append _ _

theorem back_num (big : Bool) (a n : Int) (out : List UInt8) (p k : Nat) (kk m : Int) (s : ByteArray) (hp : padK' a out.length k = p) (hk : k ≤ 8) (hkk : (kk = 0 ∧ k = 1) ∨ (kk = 2 ∧ k = 2) ∨ (kk = 3 ∧ k = 4) ∨ (kk = 4 ∧ k = 8))
    (hsg : sgN k ((n % 18446744073709551616).toNat % 256 ^ k) = n) : Back big a ⟨kk, n, m, s⟩ out (out ++ List.replicate p 0 ++ numB n big k) := by
  refine ⟨prefix_out _ _ _, fun S hS => ?_⟩
  have hn := num_back S big a n k p out [] hk hp (by simpa using hS)
  have e1 : askN kk n s = n := by unfold askN; rw [if_neg (by omega)]
  have e2 : wantN kk n = n := by unfold wantN; rw [if_neg (by omega), if_pos (by omega)]
  have e3 : wantS kk s = noB := by unfold wantS; rw [if_neg (by omega)]
  have e4 : (out ++ List.replicate p 0 ++ numB n big k).length = out.length + p + k := by simp [numB_length]; omega
  have e5 : rdA S big a kk n out.length false = numA S big a k out.length false := by
    rcases hkk with ⟨rfl, rfl⟩ | ⟨rfl, rfl⟩ | ⟨rfl, rfl⟩ | ⟨rfl, rfl⟩ <;> rfl
  simp only [e1, e2, e3, e4, e5]
  unfold numA
  rw [hn]
  simp only [hsg]
  rfl

theorem flag_fit (c : Bool) : ((flagN c) % 18446744073709551616).toNat % 256 ^ 1 = if c then 1 else 0 := by cases c <;> rfl

theorem back_flag (big : Bool) (a n : Int) (out : List UInt8) (p : Nat) (m : Int) (s : ByteArray) (hp : padK' a out.length 1 = p) : Back big a ⟨1, n, m, s⟩ out (out ++ List.replicate p 0 ++ numB (flagN (n == 1)) big 1) := by
  refine ⟨prefix_out _ _ _, fun S hS => ?_⟩
  have hn := num_back S big a (flagN (n == 1)) 1 p out [] (by omega) hp (by simpa using hS)
  have e4 : (out ++ List.replicate p 0 ++ numB (flagN (n == 1)) big 1).length = out.length + p + 1 := by simp [numB_length]; omega
  simp only [e4]
  rw [flag_fit] at hn
  show flagA S big a out.length false = _
  unfold flagA
  rw [hn]
  by_cases h1 : n = 1
  · subst h1; rfl
  · have : (n == 1) = false := by simpa using h1
    rw [this]
    have e2 : wantN 1 n = 0 := by unfold wantN; rw [if_pos rfl, if_neg h1]
    rw [e2]
    rfl

theorem idx_of (l : List UInt8) (k : Nat) (h1 : l[k]? = some 0) (h2 : ∀ j, j < k → l[j]? ≠ some 0) : Lib.indexByte l 0 = k := by
  have hge := Lib.indexByte_ge l 0
  by_cases h0 : Lib.indexByte l 0 = -1
  · exact absurd h1 (Lib.indexByte_none h0 k)
  · obtain ⟨o, ho⟩ : ∃ o : Nat, Lib.indexByte l 0 = o := ⟨_, (Int.toNat_of_nonneg (by omega)).symm⟩
    obtain ⟨h3, h4⟩ := Lib.indexByte_some ho
    rw [ho]
    rcases Nat.lt_trichotomy o k with h | h | h
    · exact absurd h3 (h2 o h)
    · rw [h]
    · exact absurd h1 (h4 k h)

/-- Bytes that were written behind their number are read. -/
theorem cnt_back (S : ByteArray) (big : Bool) (a least : Int) (p : Nat) (out body : List UInt8) (hp : padK' a out.length 4 = p) (hb : body.length ≤ 1000001) (hl : least ≤ body.length)
    (h : (out ++ List.replicate p 0 ++ (numB (body.length : Int) big 4 ++ body)) <+: bytesOf S) :
    cntA S big a least out.length false = ⟨0, S.extract (out.length + p + 4) (out.length + p + 4 + body.length), 0, out.length + p + 4 + body.length, false⟩ ∧ bytesOf (S.extract (out.length + p + 4) (out.length + p + 4 + body.length)) = body := by
  have hn := num_back S big a (body.length : Int) 4 p out body (by omega) hp h
  have hsg := sg_back (body.length : Int) 4 (by omega) (by simp [fitsN]; omega)
  have hlen : out.length + p + 4 + body.length ≤ S.size := by
    have := h.length_le
    rw [bytesOf_length] at this
    simp [numB_length] at this
    omega
  refine ⟨?_, ?_⟩
  · unfold cntA
    rw [hn]
    have := cntOf_ok S least (out.length + p + 4, false, ((body.length : Int) % 18446744073709551616).toNat % 256 ^ 4) rfl (by simp only [hsg]; omega)
    simp only [hsg, Int.toNat_natCast] at this
    exact this
  · rw [bytesOf_extract]
    have h2 : (out ++ List.replicate p 0 ++ numB (body.length : Int) big 4 ++ List.replicate 0 0 ++ body) <+: bytesOf S := by simpa using h
    have := body_read _ (out ++ List.replicate p 0 ++ numB (body.length : Int) big 4) body 0 h2
    have hq : (out ++ List.replicate p 0 ++ numB (body.length : Int) big 4).length = out.length + p + 4 := by simp [numB_length]; omega
    rw [Nat.add_zero, hq] at this
    exact this

theorem back_bytes (big : Bool) (a n : Int) (out : List UInt8) (p : Nat) (m : Int) (s : ByteArray) (hp : padK' a out.length 4 = p) (hs : s.size ≤ 1000000) : Back big a ⟨6, n, m, s⟩ out (out ++ List.replicate p 0 ++ (numB ((s.size : Int) + (0 : Nat)) big 4 ++ bytesOf s ++ [])) := by
  refine ⟨prefix_out _ _ _, fun S hS => ?_⟩
  have hl := bytesOf_length s
  have e0 : (s.size : Int) + (0 : Nat) = ((bytesOf s).length : Int) := by rw [hl]; simp
  rw [e0, List.append_nil] at hS ⊢
  obtain ⟨h1, h2⟩ := cnt_back S big a 0 p out (bytesOf s) hp (by omega) (by omega) hS
  have e4 : (out ++ List.replicate p 0 ++ (numB ((bytesOf s).length : Int) big 4 ++ bytesOf s)).length = out.length + p + 4 + (bytesOf s).length := by simp [numB_length]; omega
  simp only [e4]
  show cntA S big a 0 out.length false = _
  rw [h1, bytesOf_inj h2]
  rfl

theorem back_text (big : Bool) (a n : Int) (out : List UInt8) (p : Nat) (m : Int) (s : ByteArray) (hp : padK' a out.length 4 = p) (hs : s.size ≤ 1000000) (hz : zeroIn s = false) : Back big a ⟨5, n, m, s⟩ out (out ++ List.replicate p 0 ++ (numB ((s.size : Int) + 1) big 4 ++ bytesOf s ++ ([0] : List UInt8))) := by
  refine ⟨prefix_out _ _ _, fun S hS => ?_⟩
  have hl := bytesOf_length s
  have hbl : (bytesOf s ++ ([0] : List UInt8)).length = s.size + 1 := by simp [hl]
  have e0 : (s.size : Int) + 1 = ((bytesOf s ++ ([0] : List UInt8)).length : Int) := by rw [hbl]; omega
  rw [e0, List.append_assoc (numB _ _ _)] at hS ⊢
  obtain ⟨h1, h2⟩ := cnt_back S big a 1 p out (bytesOf s ++ ([0] : List UInt8)) hp (by omega) (by omega) hS
  have e4 : (out ++ List.replicate p 0 ++ (numB ((bytesOf s ++ ([0] : List UInt8)).length : Int) big 4 ++ (bytesOf s ++ ([0] : List UInt8)))).length = out.length + p + 4 + (bytesOf s ++ ([0] : List UInt8)).length := by simp [numB_length]; omega
  simp only [e4]
  show textA S big a out.length false = _
  unfold textA
  rw [h1]
  obtain ⟨t, ht⟩ : ∃ t, S.extract (out.length + p + 4) (out.length + p + 4 + (bytesOf s ++ ([0] : List UInt8)).length) = t := ⟨_, rfl⟩
  rw [ht] at h2 ⊢
  have hts : t.size = s.size + 1 := by rw [← bytesOf_length, h2, hbl]
  have hno : ∀ j, j < s.size → (bytesOf s ++ ([0] : List UInt8))[j]? ≠ some 0 := fun j hj => by
    rw [List.getElem?_append_left (by omega)]
    have hge := Lib.indexByte_ge (bytesOf s) 0
    have : Lib.indexByte (bytesOf s) 0 = -1 := by
      have := of_decide_eq_false hz
      change ¬ 0 ≤ Lib.indexByte (bytesOf s) 0 at this
      omega
    exact Lib.indexByte_none this j
  have hi : Lib.indexByte (bytesOf t) 0 = s.size := by
    rw [h2]
    exact idx_of _ _ (by rw [List.getElem?_append_right (by omega), hl]; simp) hno
  obtain ⟨C, hC⟩ : ∃ C : RR, C = ⟨0, t, 0, out.length + p + 4 + (bytesOf s ++ ([0] : List UInt8)).length, false⟩ := ⟨_, rfl⟩
  have hCw : C.w = false := by rw [hC]
  have hCt : C.t = t := by rw [hC]
  have hCi : C.i = out.length + p + 4 + (bytesOf s ++ ([0] : List UInt8)).length := by rw [hC]
  rw [← hC, textOf_ok C hCw (by rw [hCt, hi]; omega) (by rw [hCt, hi, hts]; omega), hCt, hi, hCi]
  have he : t.extract 0 (s.size : Int).toNat = s := by
    apply bytesOf_inj
    rw [Int.toNat_natCast]
    have := bytesOf_extract t 0 s.size
    rw [Nat.zero_add] at this
    rw [this, h2]
    unfold pieceL
    rw [List.drop_zero, ← hl, List.take_left]
  rw [he]
  rfl

theorem back_raw (big : Bool) (a n : Int) (out : List UInt8) (m : Int) (s : ByteArray) : Back big a ⟨7, n, m, s⟩ out (out ++ List.replicate 0 0 ++ bytesOf s) := by
  refine ⟨prefix_out _ _ _, fun S hS => ?_⟩
  have hl := bytesOf_length s
  have hb := body_read _ _ _ _ hS
  rw [hl, Nat.add_zero] at hb
  have hlen : out.length + s.size ≤ S.size := by
    have := hS.length_le
    rw [bytesOf_length] at this
    simp [hl] at this
    omega
  have e4 : (out ++ List.replicate 0 0 ++ bytesOf s).length = out.length + s.size := by simp [hl]
  simp only [e4]
  show rawA S (s.size : Int) out.length false = _
  rw [rawA_ok S _ _ (by omega) (by omega), Int.toNat_natCast]
  have he : S.extract out.length (out.length + s.size) = s := bytesOf_inj (by rw [bytesOf_extract]; exact hb)
  rw [he]
  rfl

theorem back_align (big : Bool) (a : Int) (out : List UInt8) (p k : Nat) (m : Int) (s : ByteArray) (hz : szB (k : Int) = true) (hp : padK' a out.length k = p) : Back big a ⟨8, k, m, s⟩ out (out ++ List.replicate p 0) := by
  refine ⟨List.prefix_append _ _, fun S hS => ?_⟩
  have hf := zeros_read (bytesOf S) out [] p (by simpa using hS)
  have e4 : (out ++ List.replicate p 0).length = out.length + p := by simp
  simp only [e4]
  show algA S a (k : Int) out.length false = _
  rw [algA_none S a k out.length hz (by rw [hp]; exact hf), hp]
  rfl

/-! ### Acts after each other -/

inductive Chain (big : Bool) (a : Int) : List ActD → List UInt8 → Prop
  | nil : Chain big a [] []
  | snoc {l : List ActD} {out out' : List UInt8} {x : ActD} : Chain big a l out → Back big a x out out' → Chain big a (l ++ [x]) out'

theorem Chain.read {big : Bool} {a : Int} {l : List ActD} {out : List UInt8} (h : Chain big a l out) : ∃ pos : Nat → Nat, pos 0 = 0 ∧ pos l.length = out.length ∧
    ∀ S : ByteArray, out <+: bytesOf S → ∀ k (hk : k < l.length), rdA S big a l[k].k (askN l[k].k l[k].n l[k].s) (pos k) false = ⟨wantN l[k].k l[k].n, wantS l[k].k l[k].s, 0, pos (k + 1), false⟩ := by
  induction h with
  | nil => exact ⟨fun _ => 0, rfl, rfl, fun S _ k hk => by simp at hk⟩
  | snoc hc hb ih =>
    rename_i l out out' x
    obtain ⟨pos, h0, h1, h2⟩ := ih
    refine ⟨fun k => if k ≤ l.length then pos k else out'.length, ?_, ?_, fun S hS k hk => ?_⟩
    · simp only [Nat.zero_le, if_true]; exact h0
    · dsimp only
      rw [List.length_append, List.length_singleton, if_neg (by omega)]
    · rw [List.length_append, List.length_singleton] at hk
      by_cases hkl : k < l.length
      · have := h2 S (hb.1.trans hS) k hkl
        simp only [List.getElem_append_left hkl]
        rw [if_pos (by omega), if_pos (by omega)]
        exact this
      · obtain rfl : k = l.length := by omega
        have := hb.2 S hS
        simp only [List.getElem_concat_length]
        rw [if_pos (Nat.le_refl _), if_neg (by omega), h1]
        exact this

end Go.Proofs.Ytdklmeamhcgohaa
