/- A piece; what is a number, a size, a message; the contracts of both Valid. -/
import Derived.Test.YteblbpdpfegooaaProg
import Derived.WalkKit
import Derived.Lib.Hide
import Derived.Below
import Derived.IntWalk
import Derived.BigQuiet
import Derived.Deep.QuietTactic
import Derived.LoopTactic
import Derived.Lib.QuietBelow
namespace Go.Proofs.Yteblbpdpfegooaa
open Go.RowKit Go.BigFrame

theorem ret_bool {a b : Bool} (h : a = b) : Ending.returned (.bool a) = .returned (.bool b) := by rw [h]

theorem ret_int {k : IntKind} {a b : Int} (h : a = b) : Ending.returned (.int k a) = .returned (.int k b) := by rw [h]

theorem below_drewN' (W : World) (n : Nat) : Below W.heap.size W (W.drewN n) := ⟨rfl, rfl, rfl, Nat.le_refl _, fun _ _ => rfl⟩

def numB (n : Int) : Bool := decide (0 ≤ n) && decide (n ≤ 1000000)

def sizeB (n : Int) : Bool := decide (1 ≤ n) && decide (n ≤ 65536)

def msgB (id : Int) (b : ByteArray) : Bool := numB id && decide (b.size ≤ 65536)

/-- A piece. -/
structure Pc where
  id : Int
  place : Int
  more : Bool
  body : ByteArray

def vP (p : Pc) : Bool := numB p.id && (numB p.place && (decide (p.body.size ≤ 65536) && (!p.more || !decide (p.body.size = 0))))

/-- A piece's block. -/
def pcO (i pl : Int) (m : Bool) (b : ByteArray) : Obj := .cells #[.int .i64 i, .int .i64 pl, .bool m, .string b] 25

theorem cells_at {W : World} {g : Nat} {cs : Array Value} {t : TypeId} (h : W.heap[g]? = some (.cells cs t (0, 0))) (i : Nat) : W.cell? ⟨g, i, none⟩ = cs[i]? := by simp [World.cell?, h]

theorem num_any (n : Int) (w : World) : Calls Try.prog 48 #[.int .i64 n] w fun e w' => e = .returned (.bool (numB n)) ∧ w = w' := by
  unfold numB
  by_cases h1 : 0 ≤ n
  · have e1 : decide (0 ≤ n) = true := by simpa using h1
    by_cases h2 : n ≤ 1000000
    · have e2 : decide (n ≤ 1000000) = true := by simpa using h2
      go_enter Try.func48, Try.ntmps48
      go_wp2
      go_ret
      exact ⟨ret_bool (by first | rfl | simp [h1, h2]), rfl⟩
    · have e2 : decide (n ≤ 1000000) = false := by simpa using h2
      go_enter Try.func48, Try.ntmps48
      go_wp2
      go_ret
      exact ⟨ret_bool (by first | rfl | simp [h1, h2]), rfl⟩
  · have e1 : decide (0 ≤ n) = false := by simpa using h1
    go_enter Try.func48, Try.ntmps48
    go_wp2
    go_ret
    exact ⟨ret_bool (by first | rfl | simp [h1]), rfl⟩

theorem size_any (n : Int) (w : World) : Calls Try.prog 38 #[.int .i64 n] w fun e w' => e = .returned (.bool (sizeB n)) ∧ w = w' := by
  unfold sizeB
  by_cases h1 : 1 ≤ n
  · have e1 : decide (1 ≤ n) = true := by simpa using h1
    by_cases h2 : n ≤ 65536
    · have e2 : decide (n ≤ 65536) = true := by simpa using h2
      go_enter Try.func38, Try.ntmps38
      go_wp2
      go_ret
      exact ⟨ret_bool (by first | rfl | simp [h1, h2]), rfl⟩
    · have e2 : decide (n ≤ 65536) = false := by simpa using h2
      go_enter Try.func38, Try.ntmps38
      go_wp2
      go_ret
      exact ⟨ret_bool (by first | rfl | simp [h1, h2]), rfl⟩
  · have e1 : decide (1 ≤ n) = false := by simpa using h1
    go_enter Try.func38, Try.ntmps38
    go_wp2
    go_ret
    exact ⟨ret_bool (by first | rfl | simp [h1]), rfl⟩

theorem msg_any (n : Int) (b : ByteArray) (w : World) : Calls Try.prog 37 #[.int .i64 n, .string b] w fun e w' => e = .returned (.bool (msgB n b)) ∧ w = w' := by
  have NA := Lib.hid fun wx => num_any n wx
  unfold msgB
  cases hn : numB n
  · rw [hn] at NA
    clear hn
    go_enter Try.func37, Try.ntmps37
    go_wp2_with (go_at_call 48; refine (NA.out _).mono ?_; rintro e w1 ⟨rfl, rfl⟩)
    go_ret
    exact ⟨rfl, rfl⟩
  · rw [hn] at NA
    clear hn
    by_cases h2 : b.size ≤ 65536
    · have e2 : decide ((b.size : Int) ≤ 65536) = true := by simp; omega
      have e3 : (b.size : Int) ≤ 65536 := by omega
      have HF : Hid (true = (true && decide (b.size ≤ 65536))) := Lib.hid (by simp [h2])
      clear h2
      go_enter Try.func37, Try.ntmps37
      go_wp2_with (go_at_call 48; refine (NA.out _).mono ?_; rintro e w1 ⟨rfl, rfl⟩)
      go_ret
      exact ⟨ret_bool HF.out, rfl⟩
    · have e2 : decide ((b.size : Int) ≤ 65536) = false := by simp; omega
      have e3 : ¬ (b.size : Int) ≤ 65536 := by omega
      have HF : Hid (false = (true && decide (b.size ≤ 65536))) := Lib.hid (by simp [h2])
      clear h2
      go_enter Try.func37, Try.ntmps37
      go_wp2_with (go_at_call 48; refine (NA.out _).mono ?_; rintro e w1 ⟨rfl, rfl⟩)
      go_ret
      exact ⟨ret_bool HF.out, rfl⟩

theorem bytes_empty {b : ByteArray} (h : b.size = 0) : b.toList = [] := by
  obtain ⟨a⟩ := b
  have : a = #[] := Array.eq_empty_of_size_eq_zero h
  subst this
  rw [ByteArray.toList_mk]

theorem bytes_some {b : ByteArray} (h : ¬ b.size = 0) : b.toList.isEmpty = false := by
  obtain ⟨⟨x⟩⟩ := b
  rw [ByteArray.toList_mk]
  cases x with
  | nil => exact absurd rfl h
  | cons a r => rfl

set_option maxHeartbeats 4000000 in
theorem valid_any (i pl : Int) (m : Bool) (b : ByteArray) (w : World) : Calls Try.prog 32 #[.agg #[.int .i64 i, .int .i64 pl, .bool m, .string b]] w fun e w' => e = .returned (.bool (vP ⟨i, pl, m, b⟩)) ∧ Below w.heap.size w w' := by
  have hb : Below w.heap.size w (w.alloc (pcO i pl m b)) := (Below.refl _ _).alloc (Nat.le_refl _) _
  have HB := Lib.hid hb
  have N1 := Lib.hid fun wx => num_any i wx
  have N2 := Lib.hid fun wx => num_any pl wx
  obtain ⟨r, hr⟩ : ∃ r, vP ⟨i, pl, m, b⟩ = r := ⟨_, rfl⟩
  rw [hr]
  simp only [vP] at hr
  clear hb
  cases hn : numB i
  · rw [hn] at N1 hr
    obtain rfl : r = false := by rw [← hr]; rfl
    clear hn hr
    go_enter Try.func32, Try.ntmps32
    go_wp2_with (go_at_call 48; refine (N1.out _).mono ?_; rintro e w1 ⟨rfl, rfl⟩)
    go_ret
    exact ⟨rfl, HB.out⟩
  rw [hn] at N1 hr
  clear hn
  cases hn : numB pl
  · rw [hn] at N2 hr
    obtain rfl : r = false := by rw [← hr]; rfl
    clear hn hr
    go_enter Try.func32, Try.ntmps32
    go_wp2_with (go_at_call 48; first | (refine (N1.out _).mono ?_; rintro e w1 ⟨rfl, rfl⟩; clear N1) | (refine (N2.out _).mono ?_; rintro e w1 ⟨rfl, rfl⟩))
    go_ret
    exact ⟨rfl, HB.out⟩
  rw [hn] at N2 hr
  clear hn
  by_cases h3 : b.size ≤ 65536
  · have e3 : (b.size : Int) ≤ 65536 := by omega
    have e4 : decide ((b.size : Int) ≤ 65536) = true := by simpa using e3
    rw [decide_eq_true h3] at hr
    clear h3
    cases m
    · obtain rfl : r = true := by rw [← hr]; rfl
      clear hr
      go_enter Try.func32, Try.ntmps32
      go_wp2_with (go_at_call 48; first | (refine (N1.out _).mono ?_; rintro e w1 ⟨rfl, rfl⟩; clear N1) | (refine (N2.out _).mono ?_; rintro e w1 ⟨rfl, rfl⟩))
      go_ret
      exact ⟨rfl, HB.out⟩
    · by_cases h0 : b.size = 0
      · have e5 : b.toList = [] := bytes_empty h0
        obtain rfl : r = false := by rw [← hr, decide_eq_true h0]; rfl
        clear hr h0
        go_enter Try.func32, Try.ntmps32
        go_wp2_with (go_at_call 48; first | (refine (N1.out _).mono ?_; rintro e w1 ⟨rfl, rfl⟩; clear N1) | (refine (N2.out _).mono ?_; rintro e w1 ⟨rfl, rfl⟩))
        go_ret
        exact ⟨rfl, HB.out⟩
      · have e5 : b.toList.isEmpty = false := bytes_some h0
        obtain rfl : r = true := by rw [← hr, decide_eq_false h0]; rfl
        clear hr h0
        go_enter Try.func32, Try.ntmps32
        go_wp2_with (go_at_call 48; first | (refine (N1.out _).mono ?_; rintro e w1 ⟨rfl, rfl⟩; clear N1) | (refine (N2.out _).mono ?_; rintro e w1 ⟨rfl, rfl⟩))
        go_ret
        exact ⟨rfl, HB.out⟩
  · have e3 : ¬ (b.size : Int) ≤ 65536 := by omega
    have e4 : decide ((b.size : Int) ≤ 65536) = false := by simpa using e3
    obtain rfl : r = false := by rw [← hr, decide_eq_false h3]; rfl
    clear hr h3
    go_enter Try.func32, Try.ntmps32
    go_wp2_with (go_at_call 48; first | (refine (N1.out _).mono ?_; rintro e w1 ⟨rfl, rfl⟩; clear N1) | (refine (N2.out _).mono ?_; rintro e w1 ⟨rfl, rfl⟩))
    go_ret
    exact ⟨rfl, HB.out⟩

set_option maxHeartbeats 4000000 in
theorem rvalid_any (i pl : Int) (m : Bool) (b : ByteArray) (w : World) : Calls Try.prog 33 #[.agg #[.int .i64 i, .int .i64 pl, .bool m, .string b]] w fun e w' => e = .returned (.bool (vP ⟨i, pl, m, b⟩)) ∧ Below w.heap.size w w' := by
  have hb : Below w.heap.size w (w.alloc (pcO i pl m b)) := (Below.refl _ _).alloc (Nat.le_refl _) _
  have HB := Lib.hid hb
  obtain ⟨r, hr⟩ : ∃ r, vP ⟨i, pl, m, b⟩ = r := ⟨_, rfl⟩
  rw [hr]
  simp only [vP, numB] at hr
  clear hb
  by_cases h1 : 0 ≤ i
  case neg =>
    obtain rfl : r = false := by rw [← hr, decide_eq_false h1]; rfl
    have e1 : decide (0 ≤ i) = false := decide_eq_false h1
    clear hr
    go_enter Try.func33, Try.ntmps33
    go_wp2
    go_ret
    exact ⟨rfl, HB.out⟩
  have e1 : decide (0 ≤ i) = true := decide_eq_true h1
  by_cases h2 : i ≤ 1000000
  case neg =>
    obtain rfl : r = false := by rw [← hr, e1, decide_eq_false h2]; rfl
    have e2 : decide (i ≤ 1000000) = false := decide_eq_false h2
    clear hr
    go_enter Try.func33, Try.ntmps33
    go_wp2
    go_ret
    exact ⟨rfl, HB.out⟩
  have e2 : decide (i ≤ 1000000) = true := decide_eq_true h2
  by_cases h3 : 0 ≤ pl
  case neg =>
    obtain rfl : r = false := by rw [← hr, e1, e2, decide_eq_false h3]; rfl
    have e3 : decide (0 ≤ pl) = false := decide_eq_false h3
    clear hr
    go_enter Try.func33, Try.ntmps33
    go_wp2
    go_ret
    exact ⟨rfl, HB.out⟩
  have e3 : decide (0 ≤ pl) = true := decide_eq_true h3
  by_cases h4 : pl ≤ 1000000
  case neg =>
    obtain rfl : r = false := by rw [← hr, e1, e2, e3, decide_eq_false h4]; rfl
    have e4 : decide (pl ≤ 1000000) = false := decide_eq_false h4
    clear hr
    go_enter Try.func33, Try.ntmps33
    go_wp2
    go_ret
    exact ⟨rfl, HB.out⟩
  have e4 : decide (pl ≤ 1000000) = true := decide_eq_true h4
  by_cases h5 : b.size ≤ 65536
  case neg =>
    obtain rfl : r = false := by rw [← hr, e1, e2, e3, e4, decide_eq_false h5]; rfl
    have e5 : ¬ (b.size : Int) ≤ 65536 := by omega
    have e6 : decide ((b.size : Int) ≤ 65536) = false := decide_eq_false e5
    clear hr h5
    go_enter Try.func33, Try.ntmps33
    go_wp2
    go_ret
    exact ⟨rfl, HB.out⟩
  have e5 : (b.size : Int) ≤ 65536 := by omega
  have e6 : decide ((b.size : Int) ≤ 65536) = true := decide_eq_true e5
  rw [e1, e2, e3, e4, decide_eq_true h5] at hr
  clear h5
  cases m
  · obtain rfl : r = true := by rw [← hr]; rfl
    clear hr
    go_enter Try.func33, Try.ntmps33
    go_wp2
    go_ret
    exact ⟨rfl, HB.out⟩
  · by_cases h0 : b.size = 0
    · have e7 : b.toList = [] := bytes_empty h0
      obtain rfl : r = false := by rw [← hr, decide_eq_true h0]; rfl
      clear hr h0
      go_enter Try.func33, Try.ntmps33
      go_wp2
      go_ret
      exact ⟨rfl, HB.out⟩
    · have e7 : b.toList.isEmpty = false := bytes_some h0
      obtain rfl : r = true := by rw [← hr, decide_eq_false h0]; rfl
      clear hr h0
      go_enter Try.func33, Try.ntmps33
      go_wp2
      go_ret
      exact ⟨rfl, HB.out⟩

end Go.Proofs.Yteblbpdpfegooaa
