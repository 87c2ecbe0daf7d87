/- The operations at the texts of decimals. -/
import Derived.Test.YticbjhogdfpdkaaDoorZn
namespace Go.Proofs.YticbjhogdfpdkaaDoor
set_option maxRecDepth 8000
open Go.RowKit Go.Shelf

theorem tF_len (n s : Nat) : ∀ k, (tF n s k).length ≤ 2 * k
  | 0 => by simp [tF]
  | k + 1 => by
    have := tF_len n s k
    rw [tF, List.length_cons]
    split
    · rw [List.length_cons]; omega
    · omega
theorem txtZ_size (v : Int) (s : Nat) (hs : s ≤ 127) : (txtZ v s).size ≤ 1000 := by
  unfold txtZ txt
  rw [size_of]
  unfold txtL
  have h1 := tF_len v.natAbs s (top v.natAbs s)
  have h2 : top v.natAbs s ≤ 128 := by have := (digs_le v.natAbs).2; unfold top; omega
  rw [List.length_append]
  split
  · simp only [List.length_cons, List.length_nil]; omega
  · simp only [List.length_nil]; omega
structure DecT (v : Int) (s : Nat) : Prop where
  v : v.natAbs < 10 ^ 31
  s : s ≤ 31
theorem DecT.ok {v : Int} {s : Nat} (h : DecT v s) : okA (txtZ v s) = true := (read_txt v s h.v h.s).1
theorem DecT.vT {v : Int} {s : Nat} (h : DecT v s) : vT (txtZ v s) = v := (read_txt v s h.v h.s).2.1
theorem DecT.sT {v : Int} {s : Nat} (h : DecT v s) : sT (txtZ v s) = s := (read_txt v s h.v h.s).2.2
theorem DecT.size {v : Int} {s : Nat} (h : DecT v s) : (txtZ v s).size ≤ 1000 := txtZ_size v s (by have := h.s; omega)

def addV (v u : Int) (s t : Nat) : Int := v * 10 ^ (max s t - s) + u * 10 ^ (max s t - t)
def subV (v u : Int) (s t : Nat) : Int := v * 10 ^ (max s t - s) - u * 10 ^ (max s t - t)

theorem add_txt {v u : Int} {s t : Nat} (h1 : DecT v s) (h2 : DecT u t) (hV : (addV v u s t).natAbs < 10 ^ 31) (w : World) (h : Env w) :
    Calls Tryd.prog 12 #[.string (txtZ v s), .string (txtZ u t)] w fun e w' => e = .returned (.tuple #[.string (txtZ (addV v u s t) (max s t)), .int .i64 0]) ∧ Below w.heap.size w w' := by
  have hz : max s t ≤ 31 := by have := h1.s; have := h2.s; omega
  refine (add_any _ _ w h h1.size h2.size).mono fun e w' ⟨he, hb⟩ => ⟨?_, hb⟩
  rw [he, h1.ok, h2.ok, Bool.true_and, if_pos rfl, if_pos rfl]
  unfold sumV zT
  rw [h1.vT, h2.vT, h1.sT, h2.sT, show v * 10 ^ (max s t - s) + u * 10 ^ (max s t - t) = addV v u s t from rfl, nearZ_fit hV hz, nearE_fit hV hz]
theorem sub_txt {v u : Int} {s t : Nat} (h1 : DecT v s) (h2 : DecT u t) (hV : (subV v u s t).natAbs < 10 ^ 31) (w : World) (h : Env w) :
    Calls Tryd.prog 14 #[.string (txtZ v s), .string (txtZ u t)] w fun e w' => e = .returned (.tuple #[.string (txtZ (subV v u s t) (max s t)), .int .i64 0]) ∧ Below w.heap.size w w' := by
  have hz : max s t ≤ 31 := by have := h1.s; have := h2.s; omega
  refine (sub_any _ _ w h h1.size h2.size).mono fun e w' ⟨he, hb⟩ => ⟨?_, hb⟩
  rw [he, h1.ok, h2.ok, Bool.true_and, if_pos rfl, if_pos rfl]
  unfold difV zT
  rw [h1.vT, h2.vT, h1.sT, h2.sT, show v * 10 ^ (max s t - s) - u * 10 ^ (max s t - t) = subV v u s t from rfl, nearZ_fit hV hz, nearE_fit hV hz]
theorem mul_txt {v u : Int} {s t : Nat} (h1 : DecT v s) (h2 : DecT u t) (hV : (v * u).natAbs < 10 ^ 31) (hs : s + t ≤ 31) (w : World) (h : Env w) :
    Calls Tryd.prog 16 #[.string (txtZ v s), .string (txtZ u t)] w fun e w' => e = .returned (.tuple #[.string (txtZ (v * u) (s + t)), .int .i64 0]) ∧ Below w.heap.size w w' := by
  refine (mul_any _ _ w h h1.size h2.size).mono fun e w' ⟨he, hb⟩ => ⟨?_, hb⟩
  rw [he, h1.ok, h2.ok, Bool.true_and, if_pos rfl, if_pos rfl, h1.vT, h2.vT, h1.sT, h2.sT, nearZ_fit hV hs, nearE_fit hV hs]
theorem cmp_txt {v u : Int} {s t : Nat} (h1 : DecT v s) (h2 : DecT u t) (w : World) (h : Env w) :
    Calls Tryd.prog 10 #[.string (txtZ v s), .string (txtZ u t)] w fun e w' => e = .returned (.tuple #[.int .i64 (subV v u s t).sign, .int .i64 0]) ∧ Below w.heap.size w w' := by
  refine (compare_any2 _ _ w h h1.size h2.size).mono fun e w' ⟨he, hb⟩ => ⟨?_, hb⟩
  rw [he, h1.ok, h2.ok, Bool.true_and, if_pos rfl, if_pos rfl]
  unfold difV zT
  rw [h1.vT, h2.vT, h1.sT, h2.sT]
  rfl

/-- A number of at most ten digits, brought to at most ten places. -/
theorem lift_lt {M : Int} {k : Nat} (h : M.natAbs < 10 ^ 10) (hk : k ≤ 10) : (M * 10 ^ k).natAbs < 10 ^ 20 := by
  rw [Int.natAbs_mul, Int.natAbs_pow]
  have e : (10 : Nat) ^ 20 = 10 ^ 10 * 10 ^ 10 := by rw [← Nat.pow_add]
  have h3 : (10 : Nat) ^ k ≤ 10 ^ 10 := Nat.pow_le_pow_right (by decide) hk
  rw [e]
  exact Nat.lt_of_le_of_lt (Nat.mul_le_mul_left _ h3) (Nat.mul_lt_mul_of_pos_right h (pow_pos 10))
theorem DecT.of {M : Int} {s : Nat} (h : M.natAbs < 10 ^ 10) (hs : s ≤ 10) : DecT M s := ⟨Nat.lt_of_lt_of_le h (Nat.pow_le_pow_right (by decide) (by decide)), by omega⟩

end Go.Proofs.YticbjhogdfpdkaaDoor
