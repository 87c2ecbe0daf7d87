/- What the walks take off the shelf: texts of digits; Cut, CutPrefix, TrimLeft, Trim, Itoa. -/
import Derived.Test.YticbjhogdfpdkaaDoorY
import Derived.Shelf.Strings.SlTrimAscii
import Derived.Lib.ItoaLen
import Derived.Lib.ItoaMem
import Derived.Lib.SmallJoins
namespace Go.Proofs.YticbjhogdfpdkaaDoor
set_option maxRecDepth 8000
open Go.RowKit Go.Shelf

/-- What the laid variables give. -/
structure Env (W : World) : Prop where
  len : ∃ m, W.cell? ⟨0, 0, none⟩ = some (.int .i64 m)
  tab : Lib.TabIs Tryd.prog W "internal/strconv.uint64pow10" .u64 Lib.pow10Tab
theorem gPow : Tryd.prog.globalNamed "internal/strconv.uint64pow10" = some 1 := by kernel_rfl
theorem Env.below {W W' : World} (h : Env W) (hb : Below W.heap.size W W') : Env W' := by
  obtain ⟨m, hm⟩ := h.len
  exact ⟨⟨m, (hb.cell (World.block_lt_of_cell? W _ hm)).trans hm⟩, Go.Joins.tab_stays gPow h.tab hb (Nat.le_refl _)⟩
theorem Env.from {w W W' : World} (h : Env W) (hb : Below w.heap.size W W') (hW : w.heap.size = W.heap.size) : Env W' := h.below (hW ▸ hb)

theorem size_of (l : List UInt8) : (⟨l.toArray⟩ : ByteArray).size = l.length := by
  show l.toArray.size = l.length
  simp
theorem data_of (l : List UInt8) : (⟨l.toArray⟩ : ByteArray).data.toList = l := rfl

/-- Digits alone are trimmed away. -/
theorem digit_in (c : UInt8) : ([48, 49, 50, 51, 52, 53, 54, 55, 56, 57] : List UInt8).contains c = isD c := by
  rw [Bool.eq_iff_iff]
  simp only [List.contains_eq_mem, decide_eq_true_eq, isD, Bool.and_eq_true, List.mem_cons, List.not_mem_nil, or_false, ← UInt8.toNat_inj]
  have e0 : (48 : UInt8).toNat = 48 := rfl
  have e1 : (49 : UInt8).toNat = 49 := rfl
  have e2 : (50 : UInt8).toNat = 50 := rfl
  have e3 : (51 : UInt8).toNat = 51 := rfl
  have e4 : (52 : UInt8).toNat = 52 := rfl
  have e5 : (53 : UInt8).toNat = 53 := rfl
  have e6 : (54 : UInt8).toNat = 54 := rfl
  have e7 : (55 : UInt8).toNat = 55 := rfl
  have e8 : (56 : UInt8).toNat = 56 := rfl
  have e9 : (57 : UInt8).toNat = 57 := rfl
  rw [e0, e1, e2, e3, e4, e5, e6, e7, e8, e9]
  omega
theorem drop_nil {p : UInt8 → Bool} : ∀ l : List UInt8, l.dropWhile p = [] ↔ l.all p = true
  | [] => by simp
  | x :: l => by
    rw [List.dropWhile_cons]
    cases hx : p x
    · simp [hx]
    · simp [hx, drop_nil l]
theorem drop_last {p : UInt8 → Bool} : ∀ l : List UInt8, (l.dropWhile p).all p = true → l.all p = true
  | [], _ => by simp
  | x :: l, h => by
    rw [List.dropWhile_cons] at h
    cases hx : p x
    · rw [if_neg (by simp [hx])] at h
      simp [hx] at h
    · rw [if_pos hx] at h
      simp [hx, drop_last l h]
theorem trim_all (l : List UInt8) : (Lib.trimS l [48, 49, 50, 51, 52, 53, 54, 55, 56, 57]).isEmpty = allD l := by
  have hp : (fun c => ([48, 49, 50, 51, 52, 53, 54, 55, 56, 57] : List UInt8).contains c) = isD := funext digit_in
  unfold Lib.trimS Lib.trimLeftS Lib.trimRightS allD
  rw [hp, Bool.eq_iff_iff, List.isEmpty_iff, drop_nil]
  constructor
  · intro h
    have h1 := drop_last l.reverse (by simpa using h)
    simpa using h1
  · intro h
    have h1 : l.reverse.dropWhile isD = [] := (drop_nil _).2 (by simpa using h)
    rw [h1]
    rfl

theorem cut_any (t : ByteArray) (w : World) (h : Env w) (hs : t.size ≤ 100000) :
    Calls Tryd.prog 78 #[.string t, .string ⟨#[46]⟩] w fun e w' => e = .returned (.tuple #[.string ⟨(Lib.cut t.data.toList [46]).1.toArray⟩, .string ⟨(Lib.cut t.data.toList [46]).2.1.toArray⟩, .bool (Lib.cut t.data.toList [46]).2.2]) ∧ Below w.heap.size w w' := by
  obtain ⟨m, hm⟩ := h.len
  refine (Tryd.strings_Cut t ⟨#[46]⟩ m w (by omega) hm).mono fun e w' ⟨he, n, hw⟩ => ⟨he, by rw [hw]; exact below_drewN' _ _⟩
theorem trim_any (t : ByteArray) (w : World) (hs : t.size ≤ 100000) :
    Calls Tryd.prog 100 #[.string t, .string ⟨#[48, 49, 50, 51, 52, 53, 54, 55, 56, 57]⟩] w fun e w' => e = .returned (.string ⟨(Lib.trimS t.data.toList [48, 49, 50, 51, 52, 53, 54, 55, 56, 57]).toArray⟩) ∧ Below w.heap.size w w' := by
  have h := Any.strings_Trim_laid Tryd.lays160 (by kernel_rfl) t ⟨#[48, 49, 50, 51, 52, 53, 54, 55, 56, 57]⟩ w (by omega) (by decide) (ascii_of_all (by decide))
  exact h
theorem itoa_any (n : Int) (w : World) (h : Env w) (h1 : -9223372036854775808 ≤ n) (h2 : n ≤ 9223372036854775807) :
    Calls Tryd.prog 73 #[.int .i64 n] w fun e w' => e = .returned (.string ⟨(Lib.itoa n).toArray⟩) ∧ Below w.heap.size w w' :=
  (Tryd.strconv_Itoa n h1 h2 w h.tab).mono fun e w' ⟨he, k, os, hw⟩ => ⟨he, by rw [hw]; exact below_regrown w _ os⟩

set_option maxRecDepth 100000 in
set_option maxHeartbeats 2000000 in
theorem all_any (t : ByteArray) (w : World) (hs : t.size ≤ 100000) :
    Calls Tryd.prog 79 #[.string t] w fun e w' => e = .returned (.bool (allD t.data.toList)) ∧ Below w.heap.size w w' := by
  have TR := Lib.hid (trim_any t w hs)
  have HA := trim_all t.data.toList
  obtain ⟨A, hA⟩ : ∃ A, allD t.data.toList = A := ⟨_, rfl⟩
  rw [hA] at HA ⊢
  obtain ⟨s, hs2⟩ : ∃ s : ByteArray, (⟨(Lib.trimS t.data.toList [48, 49, 50, 51, 52, 53, 54, 55, 56, 57]).toArray⟩ : ByteArray) = s := ⟨_, rfl⟩
  have e1 : s.toList.isEmpty = A := by rw [← HA, ← hs2, Lib.toList_data]
  rw [hs2] at TR
  clear hs hs2 HA hA
  go_enter Tryd.func79, Tryd.ntmps79
  go_wp2_with (go_at_call 100; refine TR.out.mono ?_; rintro e w2 ⟨rfl, hb2⟩; have HB := Lib.hid hb2; clear hb2)
  go_ret
  exact ⟨rfl, HB.out⟩

/-- Itoa's digits. -/
theorem dec_digits (u : Nat) : Lib.decDigits u = decT u (Lib.nDigits u) ∧ u < 10 ^ Lib.nDigits u := by
  induction u using Nat.strongRecOn with
  | ind u ih =>
    rw [Lib.decDigits, Lib.nDigits]
    by_cases h : u < 10
    · rw [dif_pos h, dif_pos h]
      refine ⟨?_, by omega⟩
      show [UInt8.ofNat (48 + u)] = [ch (dig u 0)]
      unfold ch dig
      rw [Nat.pow_zero, Nat.div_one, Nat.mod_eq_of_lt h]
    · rw [dif_neg h, dif_neg h]
      obtain ⟨h1, h2⟩ := ih (u / 10) (by omega)
      refine ⟨?_, ?_⟩
      · have := decT_join u 1 (Lib.nDigits (u / 10))
        rw [Nat.pow_one] at this
        rw [h1, Nat.add_comm (Lib.nDigits (u / 10)) 1, ← this]
        congr 1
        show [UInt8.ofNat (48 + u % 10)] = [ch (dig u 0)]
        unfold ch dig
        rw [Nat.pow_zero, Nat.div_one]
      · rw [Nat.pow_succ]
        omega

end Go.Proofs.YticbjhogdfpdkaaDoor
