/- awake: the document's examples. -/
import Derived.Test.YticbjhogdfpdkaaDoorZm
namespace Go.Proofs.YticbjhogdfpdkaaDoor
set_option maxRecDepth 8000
open Go.RowKit Go.Shelf

set_option maxRecDepth 100000 in
set_option maxHeartbeats 8000000 in
theorem awake_any (w : World) (h : Env w) : Calls Tryd.prog 9 #[] w fun e w' => e = .returned (.bool true) ∧ Below w.heap.size w w' := by
  have C1 := Lib.hid (add_any ⟨#[49, 46, 50, 53]⟩ ⟨#[48, 46, 53]⟩ w h (by decide) (by decide))
  have C2 := Lib.hid fun wx (hx : Below w.heap.size w wx) => mul_any ⟨#[49, 46, 50, 53]⟩ ⟨#[48, 46, 53]⟩ wx (h.below hx) (by decide) (by decide)
  have C3 := Lib.hid fun wx (hx : Below w.heap.size w wx) => div_any ⟨#[49]⟩ ⟨#[51]⟩ 3 wx (h.below hx) (by decide) (by decide)
  have C4 := Lib.hid fun wx (hx : Below w.heap.size w wx) => pack_any ⟨#[45, 49, 50, 46, 53]⟩ 4 1 wx (h.below hx) (by decide)
  rw [ex_add] at C1
  rw [ex_mul] at C2
  rw [ex_div] at C3
  rw [ex_pack] at C4
  generalize (if (okA ⟨#[49, 46, 50, 53]⟩ && okA ⟨#[48, 46, 53]⟩) = true then nearE (sumV ⟨#[49, 46, 50, 53]⟩ ⟨#[48, 46, 53]⟩).natAbs (zT ⟨#[49, 46, 50, 53]⟩ ⟨#[48, 46, 53]⟩) else 2) = x1 at C1
  generalize (if (okA ⟨#[49, 46, 50, 53]⟩ && okA ⟨#[48, 46, 53]⟩) = true then nearE (vT ⟨#[49, 46, 50, 53]⟩ * vT ⟨#[48, 46, 53]⟩).natAbs (sT ⟨#[49, 46, 50, 53]⟩ + sT ⟨#[48, 46, 53]⟩) else 2) = x2 at C2
  generalize divE (okA ⟨#[49]⟩) (okA ⟨#[51]⟩) (isScl 3) (decide (vT ⟨#[51]⟩ = 0)) (toldE (quoV ⟨#[49]⟩ ⟨#[51]⟩ 3).natAbs (3 : Int).toNat) = x3 at C3
  generalize cutE ⟨#[45, 49, 50, 46, 53]⟩ 4 1 = x4 at C4
  clear h
  go_enter Tryd.func9, Tryd.ntmps9
  go_wp2_with (first
    | (go_at_call 12; refine C1.out.mono ?_; rintro e w1 ⟨rfl, hb⟩; have B1 := Lib.hid hb; clear hb)
    | (go_at_call 16; refine (C2.out _ B1.out).mono ?_; rintro e w2 ⟨rfl, hb⟩; have B2 := Lib.hid (B1.out.trans (hb.mono B1.out.size)); clear hb)
    | (go_at_call 18; refine (C3.out _ B2.out).mono ?_; rintro e w3 ⟨rfl, hb⟩; have B3 := Lib.hid (B2.out.trans (hb.mono B2.out.size)); clear hb)
    | (go_at_call 30; refine (C4.out _ B3.out).mono ?_; rintro e w4 ⟨rfl, hb⟩; have B4 := Lib.hid (B3.out.trans (hb.mono B3.out.size)); clear hb))
  go_ret
  exact ⟨rfl, B4.out⟩

end Go.Proofs.YticbjhogdfpdkaaDoor
