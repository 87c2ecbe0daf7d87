/- told, near. -/
import Derived.Test.YticbjhogdfpdkaaDoorW
namespace Go.Proofs.YticbjhogdfpdkaaDoor
set_option maxRecDepth 8000
open Go.RowKit Go.Shelf

/-- Is it a decimal? -/
def fitsT (n s : Nat) : Bool := decide (digs n ≤ 31) && decide (s ≤ 31)
def toldT (b : Bool) (n s : Nat) : ByteArray := if fitsT n s = true then txt b n s else ⟨#[]⟩
def toldE (n s : Nat) : Int := if fitsT n s = true then 0 else 4

set_option maxRecDepth 100000 in
set_option maxHeartbeats 8000000 in
theorem told_any (n s : Nat) (b : Bool) (w : World) (hn : n < 10 ^ 128) :
    Calls Tryd.prog 52 #[.agg (nC n s b)] w fun e w' => e = .returned (.tuple #[.string (toldT b n s), .int .i64 (toldE n s)]) ∧ Below w.heap.size w w' := by
  have HA := Lib.hid (show NumAt (w.alloc (.cells (nC n s b) 45)) w.heap.size n s b from at_block w (.cells (nC n s b) 45) _ rfl)
  have HB := Lib.hid ((Below.refl w.heap.size w).alloc (Nat.le_refl _) (.cells (nC n s b) 45))
  have HL := Lib.hid (length_any w.heap.size n _ HA.out.dig)
  have c1 := HA.out.scale
  have TX := Lib.hid fun wx (h : s ≤ 127) => text_any n s b wx hn h
  have HD := Lib.hid (digs_le n)
  have TT : toldT b n s = if fitsT n s = true then txt b n s else ⟨#[]⟩ := rfl
  have TE : toldE n s = if fitsT n s = true then 0 else 4 := rfl
  have FT : fitsT n s = (decide (digs n ≤ 31) && decide (s ≤ 31)) := rfl
  obtain ⟨z, hz⟩ : ∃ z, txt b n s = z := ⟨_, rfl⟩
  rw [hz] at TX TT
  obtain ⟨D, hD⟩ : ∃ D, digs n = D := ⟨_, rfl⟩
  rw [hD] at HL FT
  clear hn hz hD HD
  go_enter Tryd.func52, Tryd.ntmps52
  by_cases h1 : 31 < D
  · have e1 : (31 : Int) < (D : Int) := by omega
    rw [TT, TE, FT, decide_eq_false (by omega : ¬ D ≤ 31)]
    clear TT TE FT h1
    go_wp2_with (go_at_call 92; refine HL.out.mono ?_; rintro e wx ⟨rfl, rfl⟩)
    go_ret2
    exact ⟨rfl, HB.out⟩
  · have e1 : ¬ (31 : Int) < (D : Int) := by omega
    by_cases h2 : 31 < s
    · have e2 : (31 : Int) < (s : Int) := by omega
      rw [TT, TE, FT, decide_eq_true (by omega : D ≤ 31), decide_eq_false (by omega : ¬ s ≤ 31)]
      clear TT TE FT h1 h2
      go_wp2_with (go_at_call 92; refine HL.out.mono ?_; rintro e wx ⟨rfl, rfl⟩)
      go_ret2
      exact ⟨rfl, HB.out⟩
    · have e2 : ¬ (31 : Int) < (s : Int) := by omega
      have HS := Lib.hid (show s ≤ 127 by omega)
      rw [TT, TE, FT, decide_eq_true (by omega : D ≤ 31), decide_eq_true (by omega : s ≤ 31)]
      clear TT TE FT h1 h2
      go_wp2_with (first | (go_at_call 92; refine HL.out.mono ?_; rintro e wx ⟨rfl, rfl⟩) | refine wpList_loadV rfl 45 _ rfl ⟨w.heap.size, 0, none⟩ rfl _ (load_num HA.out) ?_ | (go_at_call 70; refine (TX.out _ HS.out).mono ?_; rintro e w5 ⟨rfl, hb5⟩; have H5 := Lib.hid (HB.out.trans (hb5.mono (by simp)))))
      go_ret2
      exact ⟨rfl, H5.out⟩

set_option maxRecDepth 100000 in
set_option maxHeartbeats 8000000 in
/-- The closure leave. -/
theorem leave_any (n : Nat) (s k : Int) (b : Bool) (B : Nat) (w : World) (h : NumAt w B n s b) (hn : n < 10 ^ 128) (h1 : 0 ≤ k) (h2 : k ≤ s) (h3 : s ≤ 900) :
    Calls Tryd.prog 105 #[.int .i64 k, .pointer (some ⟨B, 0, none⟩)] w fun e w' => e = .returned (.agg (nC (n / 10 ^ k.toNat) (s - k) b)) ∧ Below w.heap.size w w' := by
  have hB := blk_lt h
  have HA := Lib.hid (show NumAt (w.alloc (.cells (nC 0 0 false) 45)) B n s b from old_block w (.cells (nC 0 0 false) 45) _ _ h)
  have HR := Lib.hid (show NumAt (w.alloc (.cells (nC 0 0 false) 45)) w.heap.size 0 0 false from at_block w (.cells (nC 0 0 false) 45) _ rfl)
  have HB := Lib.hid ((Below.refl w.heap.size w).alloc (Nat.le_refl _) (.cells (nC 0 0 false) 45))
  have c1 := HA.out.scale
  have TO := Lib.hid fun wx => to_any n s (s - k) b wx hn (by omega) (by omega)
  have em : moved n (s - k - s) = n / 10 ^ k.toNat := by
    unfold moved
    by_cases h0 : k = 0
    · subst h0
      rw [if_pos (by omega), show (s - 0 - s).toNat = 0 by omega, Nat.pow_zero, Nat.mul_one, Nat.mod_eq_of_lt hn]
      simp
    · rw [if_neg (by omega), show (-(s - k - s)).toNat = k.toNat by omega]
  rw [em] at TO
  have e1 : IntKind.i64.wrap (s - k) = s - k := IntWalk.i64_in _ (by omega)
  generalize n / 10 ^ k.toNat = N at TO ⊢
  clear em hn h h1 h2 h3
  go_enter Tryd.func105, Tryd.ntmps105
  go_wp2_with (first
    | refine wpList_storeV rfl 45 _ _ rfl ⟨w.heap.size, 0, none⟩ rfl (.agg (nC N (s - k) b)) rfl _ (store_num H5.out.1) ?_
    | (rw [zero45]; refine wpList_loadV rfl 45 _ rfl ⟨B, 0, none⟩ rfl _ (load_num HA.out) ?_)
    | (go_at_call 61; refine (TO.out _).mono ?_; rintro e w5 ⟨rfl, hb5⟩; have H5 := Lib.hid (And.intro (HR.out.below hb5) (HB.out.trans (hb5.mono (by simp))))))
  exact bodyPost_ret (ret_num rfl rfl H5.out.1.put) rfl ⟨rfl, below_row H5.out.2 (by omega)⟩

end Go.Proofs.YticbjhogdfpdkaaDoor
