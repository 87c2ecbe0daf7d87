/- SameCodes of equal codes. -/
import Derived.Test.YtnebjdjebnphnaaDoorKc
namespace Go.Proofs.YtnebjdjebnphnaaDoor
set_option maxRecDepth 8000
open Go.RowKit Go.BigFrame

set_option maxRecDepth 100000 in
set_option maxHeartbeats 4000000 in
theorem sameC_eq (x : Int) (l : List Int) (ao1 ao2 : Option Addr) (cap1 cap2 : Nat) (w : World) (h1 : IntRow w ao1 l) (h2 : IntRow w ao2 l) (hl : l.length ≤ 2000) :
    Calls Tryd.prog 25 #[.agg #[.int .i64 x, .slice ao1 l.length cap1], .agg #[.int .i64 x, .slice ao2 l.length cap2]] w fun e w' => e = .returned (.bool true) ∧ Below w.heap.size w w' := by
  have HB : ∀ o o', Hid (Below w.heap.size w ((w.alloc o).alloc o')) := fun o o' => Lib.hid (((Below.refl _ _).alloc (Nat.le_refl _) _).alloc (by simp) _)
  have SI := Lib.hid fun wx (hx : Below w.heap.size w wx) => sameI_eq ao1 ao2 cap1 cap2 l wx (h1.below hx) (h2.below hx) hl
  clear h1 h2 hl
  go_enter Tryd.func25, Tryd.ntmps25
  go_wp2_with (go_at_call 12; refine (SI.out _ (HB _ _).out).mono ?_; rintro e w1 ⟨rfl, hb1⟩; have HB1 := Lib.hid hb1; clear hb1)
  go_ret
  exact ⟨rfl, (HB _ _).out.trans (HB1.out.mono (HB _ _).out.size)⟩

end Go.Proofs.YtnebjdjebnphnaaDoor
