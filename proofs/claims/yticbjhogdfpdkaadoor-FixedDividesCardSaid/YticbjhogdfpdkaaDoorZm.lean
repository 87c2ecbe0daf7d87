/- Pack at whatever it is asked; the examples. -/
import Derived.Test.YticbjhogdfpdkaaDoorZl
namespace Go.Proofs.YticbjhogdfpdkaaDoor
set_option maxRecDepth 8000
open Go.RowKit Go.Shelf

def packT (a : ByteArray) (d t : Int) : ByteArray := if cutE a d t = 0 then pkB (cutN a d t) (sgn (cutB a d t) (cutN a d t)) d.toNat else ⟨#[]⟩

theorem cutE_ok {a : ByteArray} {d t : Int} (h : cutE a d t = 0) : okA a = true ∧ isForm d t = true ∧ fitsN (moved (parseN a) (t - parseS a)) t d t = true := by
  unfold cutE at h
  by_cases h1 : okA a = true
  · rw [if_pos h1] at h
    by_cases h2 : isForm d t = true
    · rw [if_pos h2] at h
      by_cases h3 : fitsN (moved (parseN a) (t - parseS a)) t d t = true
      · exact ⟨h1, h2, h3⟩
      · rw [if_neg h3] at h
        cases h
    · rw [if_neg h2] at h
      cases h
  · rw [if_neg h1] at h
    cases h

set_option maxRecDepth 100000 in
set_option maxHeartbeats 8000000 in
theorem pack_any (a : ByteArray) (d t : Int) (w : World) (h : Env w) (ha : a.size ≤ 1000) :
    Calls Tryd.prog 30 #[.string a, .int .i64 d, .int .i64 t] w fun e w' => e = .returned (.tuple #[.string (packT a d t), .int .i64 (cutE a d t)]) ∧ Below w.heap.size w w' := by
  by_cases h0 : cutE a d t = 0
  · obtain ⟨h1, h2, h3⟩ := cutE_ok h0
    have h4 := h2
    simp only [isForm, Bool.and_eq_true, decide_eq_true_eq] at h4
    obtain ⟨D, rfl⟩ : ∃ D : Nat, d = D := ⟨d.toNat, by omega⟩
    have hN : cutN a D t < 10 ^ 128 := by
      unfold cutN
      split
      · exact moved_lt (lt128 (parse_ok h1).1) _
      · exact pow_pos _
    unfold packT
    rw [if_pos h0, h0, Int.toNat_natCast]
    exact pack_ok a D t w h ha (by omega) (by omega) h0 hN
  · unfold packT
    rw [if_neg h0]
    have CT := Lib.hid (cutTo_any a d t w h ha)
    generalize cutN a d t = N at CT
    generalize cutS a d t = S at CT
    generalize cutB a d t = B at CT
    generalize cutE a d t = E at CT h0 ⊢
    have h1 : (E == 0) = false := beq_false_of_ne h0
    clear h ha
    go_enter Tryd.func30, Tryd.ntmps30
    go_wp2_with (first | (go_at_call 69; refine CT.out.mono ?_; rintro e w1 ⟨rfl, hb1⟩; have A2 := Lib.hid (NwI.new hb1); clear hb1) | (rw [zero45]; refine wpList_storeV rfl 45 _ _ rfl ⟨w1.heap.size, 0, none⟩ rfl (.agg (nC N S B)) rfl _ (store_num A2.out.a) ?_; have A4 := Lib.hid (A2.out.put (n' := N) (s' := S) (b' := B)); generalize (w1.alloc (.cells (nC 0 0 false) 45)).setRow w1.heap.size (nC N S B) = W4 at A4 ⊢))
    go_ret2
    exact ⟨rfl, A4.out.bl⟩

/-- The document's examples. -/
theorem ex_add : (if (okA ⟨#[49, 46, 50, 53]⟩ && okA ⟨#[48, 46, 53]⟩) = true then nearZ (sumV ⟨#[49, 46, 50, 53]⟩ ⟨#[48, 46, 53]⟩) (zT ⟨#[49, 46, 50, 53]⟩ ⟨#[48, 46, 53]⟩) else ⟨#[]⟩) = (⟨#[49, 46, 55, 53]⟩ : ByteArray) := by
  kernel_rfl
theorem ex_mul : (if (okA ⟨#[49, 46, 50, 53]⟩ && okA ⟨#[48, 46, 53]⟩) = true then nearZ (vT ⟨#[49, 46, 50, 53]⟩ * vT ⟨#[48, 46, 53]⟩) (sT ⟨#[49, 46, 50, 53]⟩ + sT ⟨#[48, 46, 53]⟩) else ⟨#[]⟩) = (⟨#[48, 46, 54, 50, 53]⟩ : ByteArray) := by
  kernel_rfl
theorem ex_div : divT (okA ⟨#[49]⟩) (okA ⟨#[51]⟩) (isScl 3) (decide (vT ⟨#[51]⟩ = 0)) (toldZ (quoV ⟨#[49]⟩ ⟨#[51]⟩ 3) (3 : Int).toNat) = (⟨#[48, 46, 51, 51, 51]⟩ : ByteArray) := by
  kernel_rfl
theorem ex_pack : packT ⟨#[45, 49, 50, 46, 53]⟩ 4 1 = (⟨#[0, 18, 93]⟩ : ByteArray) := by
  kernel_rfl

end Go.Proofs.YticbjhogdfpdkaaDoor
