/- Digits in memory; length; the iterator over pairs of digits. -/
import Derived.Test.YticbjhogdfpdkaaDoorD
import Derived.Test.YticbjhogdfpdkaaDoorTa
import Derived.Test.YticbjhogdfpdkaaDoorProg
import Derived.WalkKit
import Derived.Lib.Hide
import Derived.Below
import Derived.IntWalk
import Derived.BigQuiet
import Derived.Deep.QuietTactic
import Derived.LoopTactic
import Derived.Lib.QuietBelow
import Derived.OwnWalk
import Derived.Laws.AppendOwn
import Derived.RangeFuncBox
import Derived.RangeFuncBound
import Derived.Shelf.Abstract
import Derived.Shelf.RegionOpen
import Derived.OwnWalkIn
import Derived.TacticsInMore
import Derived.LoopNIn
import Derived.LoopIn
import Derived.RegionTactic
import Derived.Stop.RegionWithIn
import Derived.BigFrameIn
namespace Go.Proofs.YticbjhogdfpdkaaDoor
set_option maxRecDepth 8000
open Go.RowKit Go.Shelf
attribute [local go_sem] Oper.semAt_some

theorem ret_bool {a b : Bool} (h : a = b) : Ending.returned (.bool a) = .returned (.bool b) := by rw [h]
theorem ret_int {k : IntKind} {a b : Int} (h : a = b) : Ending.returned (.int k a) = .returned (.int k b) := by rw [h]
theorem below_drewN' (W : World) (n : Nat) : Below W.heap.size W (W.drewN n) := ⟨rfl, rfl, rfl, Nat.le_refl _, fun _ _ => rfl⟩
theorem cells_at {W : World} {g : Nat} {cs : Array Value} {t : TypeId} (h : W.heap[g]? = some (.cells cs t (0, 0))) (i : Nat) : W.cell? ⟨g, i, none⟩ = cs[i]? := by simp [World.cell?, h]

/-- Digits lie at the beginning of a block. -/
def DigAt (W : World) (B n : Nat) : Prop := ∀ i, i < 128 → W.cell? ⟨B, i, none⟩ = some (.int .u8 (dig n i))
theorem DigAt.lt {W : World} {B n : Nat} (h : DigAt W B n) : B < W.heap.size := World.block_lt_of_cell? _ _ (h 0 (by decide))
theorem DigAt.same {W W' : World} {B n : Nat} (h : DigAt W B n) (hb : W'.heap[B]? = W.heap[B]?) : DigAt W' B n := fun i hi => (World.cell?_of_block hb).trans (h i hi)
theorem DigAt.below {W W' : World} {B n : Nat} (h : DigAt W B n) (hb : Below W.heap.size W W') : DigAt W' B n := h.same (hb.block B h.lt)
theorem DigAt.turned {W W' : World} {B n : Nat} {Bs : List Nat} (h : DigAt W B n) (ht : Turns Bs W W') (hn : B ∉ Bs) : DigAt W' B n := h.same (ht.block B h.lt hn)

set_option maxRecDepth 100000 in
set_option maxHeartbeats 4000000 in
theorem length_any (B n : Nat) (w : World) (h : DigAt w B n) :
    Calls Tryd.prog 92 #[.pointer (some ⟨B, 0, none⟩)] w fun e w' => e = .returned (.int .i64 (digs n)) ∧ w = w' := by
  have H := Lib.hid h
  clear h
  go_enter Tryd.func92, Tryd.ntmps92
  go_wp2_with fail
  go_loopw [2, 3] (fun r i wr => r = .int .i64 0 ∧ wr = w ∧ ∃ k : Nat, i = .int .i64 k ∧ k ≤ 127 ∧ digs n = len n k) (fun _ i _ => (intOf i).toNat)
  case atStart => exact ⟨rfl, rfl, 127, rfl, Nat.le_refl _, rfl⟩
  case round =>
    obtain ⟨rfl, rfl, k, rfl, hk, hd⟩ := hrel
    have HD := Lib.hid hd
    clear hd
    by_cases h0 : 0 < k
    · have c0 := H.out k (by omega)
      have e0 : (0 : Int) < (k : Int) := by omega
      have e1 : (0 : Int) ≤ (k : Int) := by omega
      have e2 : (k : Int) < 128 := by omega
      have HK := Lib.hid h0
      have HL : Hid (len n k = if dig n k = 0 then len n (k - 1) else k + 1) := Lib.hid (by
        obtain ⟨j, rfl⟩ : ∃ j, k = j + 1 := ⟨k - 1, by omega⟩
        rfl)
      obtain ⟨d, hdd⟩ : ∃ d, dig n k = d := ⟨_, rfl⟩
      rw [hdd] at c0 HL
      clear hdd h0
      by_cases hz : d = 0
      · have HE : Hid (digs n = len n (k - 1)) := Lib.hid (by rw [HD.out, HL.out, if_pos hz])
        subst hz
        go_wp2_with fail
        go_roundw
        case rel => exact ⟨by trivial, by trivial, k - 1, by have := HK.out; go_num, by omega, HE.out⟩
        case measure => simp [intOf]; have := HK.out; omega
      · have HE : Hid (digs n = k + 1) := Lib.hid (by rw [HD.out, HL.out, if_neg hz])
        have e3 : ¬ (d : Int) = 0 := by omega
        have e4 : ((d : Int) == 0) = false := beq_false_of_ne e3
        go_wp2_with fail
        go_ret
        exact ⟨ret_int (by rw [HE.out]; go_num), rfl⟩
    · obtain rfl : k = 0 := by omega
      have HE : Hid (digs n = 1) := Lib.hid HD.out
      go_wp2_with fail
      go_ret
      exact ⟨ret_int (by rw [HE.out]; rfl), rfl⟩

end Go.Proofs.YticbjhogdfpdkaaDoor
