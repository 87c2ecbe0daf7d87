/- What is read of a text. -/
import Derived.Test.YticbjhogdfpdkaaDoorUa
namespace Go.Proofs.YticbjhogdfpdkaaDoor
set_option maxRecDepth 8000

def pI (t : List UInt8) : List UInt8 := Lib.trimPrefix t [45]
def pS (t : List UInt8) : Bool := Lib.hasPrefix t [45]
def pW (t : List UInt8) : List UInt8 := (Lib.cut (pI t) [46]).1
def pB (t : List UInt8) : List UInt8 := (Lib.cut (pI t) [46]).2.1
def pP (t : List UInt8) : Bool := (Lib.cut (pI t) [46]).2.2
def pU (t : List UInt8) : List UInt8 := (pW t ++ pB t).dropWhile (· == 48)
def okW (l : List UInt8) : Bool := allD l && !l.isEmpty && !(l.head? == some 48 && l != [48])
def okB (l : List UInt8) (p : Bool) : Bool := allD l && !(p && l.isEmpty) && decide (l.length ≤ 31)
def okU (l : List UInt8) (b : Bool) : Bool := decide (l.length ≤ 31) && !(b && l.isEmpty)
/-- Is a text that of a decimal? -/
def okT (t : List UInt8) : Bool := okW (pW t) && okB (pB t) (pP t) && okU (pU t) (pS t)
def valT (t : List UInt8) : Int := sg (pS t) (valL (pU t))
def sclT (t : List UInt8) : Nat := (pB t).length

theorem noDot {l : List UInt8} (h : allD l = true) : (46 : UInt8) ∉ l := fun hm => by
  have := List.all_eq_true.1 h 46 hm
  cases this
theorem cut_hit : ∀ {a b : List UInt8}, (46 : UInt8) ∉ a → Lib.cut (a ++ 46 :: b) [46] = (a, b, true) := by
  intro a b h
  have hi : Lib.index (a ++ 46 :: b) [46] = a.length := by
    refine Lib.index_first (by simp) ?_ (fun j hj => ?_)
    · simp [Lib.occAt, List.isPrefixOf]
    · unfold Lib.occAt
      rw [List.drop_append_of_le_length (by omega)]
      cases hd : a.drop j with
      | nil => have := congrArg List.length hd; simp at this; omega
      | cons x r =>
        have hx : x ∈ a := List.mem_of_mem_drop (by rw [hd]; simp)
        have : x ≠ 46 := fun e => h (e ▸ hx)
        simp [List.isPrefixOf, Ne.symm this]
  unfold Lib.cut
  rw [hi, if_pos (by omega)]
  simp
theorem cut_miss {a : List UInt8} (h : (46 : UInt8) ∉ a) : Lib.cut a [46] = (a, [], false) := by
  have hi : Lib.index a [46] = -1 := by
    refine Lib.index_none (fun j _ => ?_)
    unfold Lib.occAt
    cases hd : a.drop j with
    | nil => simp
    | cons x r =>
      have hx : x ∈ a := List.mem_of_mem_drop (by rw [hd]; simp)
      have : x ≠ 46 := fun e => h (e ▸ hx)
      simp [List.isPrefixOf, Ne.symm this]
  unfold Lib.cut
  rw [hi, if_neg (by omega)]

theorem top_le {n s : Nat} (hn : digs n ≤ 31) (hs : s ≤ 31) : top n s ≤ 32 := by unfold top; omega
theorem whole_head (n s : Nat) : okW (wholeT n s) = true := by
  unfold okW
  have h1 := whole_len n s
  have ha : allD (wholeT n s) = true := allD_decT _ _
  have he : (wholeT n s).isEmpty = false := by cases h : wholeT n s with | nil => rw [h] at h1; simp at h1 | cons _ _ => rfl
  rw [ha, he]
  simp only [Bool.true_and, Bool.not_false]
  by_cases hl : digs n ≤ s + 1
  · have : top n s = s + 1 := by unfold top; omega
    have e : wholeT n s = [ch (dig (n / 10 ^ s) 0)] := by unfold wholeT; rw [this, show s + 1 - s = 1 by omega]; rfl
    rw [e]
    by_cases h : ch (dig (n / 10 ^ s) 0) = 48
    · rw [h]; rfl
    · simp [h]
  · have : top n s = digs n := by unfold top; omega
    obtain ⟨k, hk⟩ : ∃ k, digs n - s = k + 1 := ⟨digs n - s - 1, by omega⟩
    have e : wholeT n s = ch (dig n (digs n - 1)) :: decT (n / 10 ^ s) k := by
      unfold wholeT
      rw [this, hk, decT, dig_down, show k + s = digs n - 1 by omega]
    have h3 := len_dig n 127 (by show 1 < digs n; omega)
    have h4 : ch (dig n (digs n - 1)) ≠ 48 := by
      intro g
      have g1 := congrArg UInt8.toNat g
      rw [ch_nat (dig_lt _ _)] at g1
      have : (48 : UInt8).toNat = 48 := rfl
      exact h3 (by show dig n (digs n - 1) = 0; omega)
    rw [e]
    simp [h4]
theorem ch_ne45 (d : Nat) (h : d < 10) : ch d ≠ 45 := by
  intro g
  have g1 := congrArg UInt8.toNat g
  rw [ch_nat h] at g1
  have : (45 : UInt8).toNat = 45 := rfl
  omega
theorem body_prefix (n s : Nat) : Lib.hasPrefix (tF n s (top n s)) [45] = false := by
  obtain ⟨k, hk⟩ : ∃ k, top n s = k + 1 := ⟨top n s - 1, by unfold top; omega⟩
  rw [hk, tF]
  simp [Lib.hasPrefix, List.isPrefixOf, Ne.symm (ch_ne45 _ (dig_lt n k))]
theorem txtL_I (b : Bool) (n s : Nat) : pI (txtL b n s) = tF n s (top n s) ∧ pS (txtL b n s) = decide (b = true ∧ n ≠ 0) := by
  unfold pI pS txtL Lib.trimPrefix
  by_cases h : b = true ∧ n ≠ 0
  · rw [if_pos h]
    have : Lib.hasPrefix ([45] ++ tF n s (top n s)) [45] = true := by simp [Lib.hasPrefix, List.isPrefixOf]
    rw [this, decide_eq_true h]
    simp
  · rw [if_neg h, List.nil_append, body_prefix, decide_eq_false h]
    simp
/-- A decimal's text is read as what it is. -/
theorem read_txt (v : Int) (s : Nat) (hv : v.natAbs < 10 ^ 31) (hs : s ≤ 31) : okT (txtZ v s).data.toList = true ∧ valT (txtZ v s).data.toList = v ∧ sclT (txtZ v s).data.toList = s := by
  have hn : v.natAbs < 10 ^ 128 := Nat.lt_of_lt_of_le hv (Nat.pow_le_pow_right (by decide) (by omega))
  have hd : digs v.natAbs ≤ 31 := digs_most hv (by omega)
  have et : (txtZ v s).data.toList = txtL (decide (v < 0)) v.natAbs s := rfl
  rw [et]
  obtain ⟨e1, e2⟩ := txtL_I (decide (v < 0)) v.natAbs s
  have e3 : pS (txtL (decide (v < 0)) v.natAbs s) = decide (v < 0) := by
    rw [e2]
    by_cases h : v < 0
    · rw [decide_eq_true h]; simp; omega
    · rw [decide_eq_false h]; simp
  have ec : Lib.cut (pI (txtL (decide (v < 0)) v.natAbs s)) [46] = (wholeT v.natAbs s, decT v.natAbs s, decide (0 < s)) := by
    rw [e1, txt_body]
    by_cases h : 0 < s
    · rw [if_pos h, cut_hit (noDot (show allD (wholeT v.natAbs _) = true from allD_decT _ _)), decide_eq_true h]
    · obtain rfl : s = 0 := by omega
      rw [if_neg (by omega), List.append_nil, cut_miss (noDot (show allD (wholeT v.natAbs _) = true from allD_decT _ _))]
      rfl
  generalize txtL (decide (v < 0)) v.natAbs s = T at e1 e2 e3 ec
  have w1 : pW T = wholeT v.natAbs s := by unfold pW; rw [ec]
  have w2 : pB T = decT v.natAbs s := by unfold pB; rw [ec]
  have w3 : pP T = decide (0 < s) := by unfold pP; rw [ec]
  have hu : pU T = if v.natAbs = 0 then [] else decT v.natAbs (digs v.natAbs) := by
    unfold pU
    rw [w1, w2, all_digits]
    refine drop_zeros _ (by have := top_le hd hs; omega) ?_
    have h1 := digs_lt hn
    exact Nat.lt_of_lt_of_le h1 (Nat.pow_le_pow_right (by decide) (by unfold top; omega))
  have hval : valL (pU T) = v.natAbs := by
    rw [hu]
    split
    · rename_i h; rw [h]; rfl
    · rw [valL_decT, Nat.mod_eq_of_lt (digs_lt hn)]
  refine ⟨?_, ?_, ?_⟩
  · unfold okT
    rw [w1, w2, w3, whole_head _ _, e3]
    have hB : okB (decT v.natAbs s) (decide (0 < s)) = true := by
      unfold okB
      rw [allD_decT, decT_len, decide_eq_true hs]
      cases s with
      | zero => rfl
      | succ k => rfl
    rw [hB, hu]
    unfold okU
    split
    · rename_i h
      have : ¬ v < 0 := by omega
      rw [decide_eq_false this]; rfl
    · rename_i h
      rw [decT_len, decide_eq_true hd]
      have : (decT v.natAbs (digs v.natAbs)).isEmpty = false := by
        have := decT_len v.natAbs (digs v.natAbs)
        have h1 := (digs_le v.natAbs).1
        cases hq : decT v.natAbs (digs v.natAbs) with
        | nil => rw [hq] at this; simp at this; omega
        | cons _ _ => rfl
      rw [this]
      simp
  · unfold valT
    rw [e3, hval, sg_of]
  · unfold sclT
    rw [w2, decT_len]

end Go.Proofs.YticbjhogdfpdkaaDoor
