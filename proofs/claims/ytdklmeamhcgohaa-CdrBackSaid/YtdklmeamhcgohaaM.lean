/-
  PROVED HERE: what the law's function write does with an act: it calls the method that the act's kind names, in a world with one new block, and returns what that returns.
-/
import Derived.Test.YtdklmeamhcgohaaL
namespace Go.Proofs.Ytdklmeamhcgohaa
open Go.RowKit

/-- An act as a value, and as a new block. -/
def actV (k n m : Int) (s : ByteArray) : Value := .agg #[.int .i64 k, .int .i64 n, .int .i64 m, .string s]
def actO (k n m : Int) (s : ByteArray) : Obj := .cells #[.int .i64 k, .int .i64 n, .int .i64 m, .string s] 30

set_option maxRecDepth 100000 in
theorem write_0 (b : Nat) (n m : Int) (s : ByteArray) (w : World) (Q : Int → World → Prop)
    (h : Calls Try.prog 19 #[.pointer (some ⟨b, 0, none⟩), .int .i64 n] (w.alloc (actO 0 n m s)) fun e w' => ∃ c, e = .returned (.int .i64 c) ∧ Q c w') :
    Calls Try.prog 13 #[.pointer (some ⟨b, 0, none⟩), actV 0 n m s] w fun e w' => ∃ c, e = .returned (.int .i64 c) ∧ Q c w' := by
  unfold actV
  unfold actO at h
  have H := Lib.hid h
  clear h
  go_enter Try.func13, Try.ntmps13
  go_wp2_with (go_at_call 19; refine H.out.mono ?_; rintro e w2 ⟨c, rfl, hq⟩; have HQ := Lib.hid hq; clear hq)
  go_ret
  exact ⟨c, rfl, HQ.out⟩

set_option maxRecDepth 100000 in
theorem write_1 (b : Nat) (n m : Int) (s : ByteArray) (w : World) (Q : Int → World → Prop)
    (h : Calls Try.prog 41 #[.pointer (some ⟨b, 0, none⟩), .bool (n == 1)] (w.alloc (actO 1 n m s)) fun e w' => ∃ c, e = .returned (.int .i64 c) ∧ Q c w') :
    Calls Try.prog 13 #[.pointer (some ⟨b, 0, none⟩), actV 1 n m s] w fun e w' => ∃ c, e = .returned (.int .i64 c) ∧ Q c w' := by
  unfold actV
  unfold actO at h
  have H := Lib.hid h
  clear h
  go_enter Try.func13, Try.ntmps13
  go_wp2_with (go_at_call 41; refine H.out.mono ?_; rintro e w2 ⟨c, rfl, hq⟩; have HQ := Lib.hid hq; clear hq)
  go_ret
  exact ⟨c, rfl, HQ.out⟩

set_option maxRecDepth 100000 in
theorem write_2 (b : Nat) (n m : Int) (s : ByteArray) (w : World) (Q : Int → World → Prop)
    (h : Calls Try.prog 42 #[.pointer (some ⟨b, 0, none⟩), .int .i64 n] (w.alloc (actO 2 n m s)) fun e w' => ∃ c, e = .returned (.int .i64 c) ∧ Q c w') :
    Calls Try.prog 13 #[.pointer (some ⟨b, 0, none⟩), actV 2 n m s] w fun e w' => ∃ c, e = .returned (.int .i64 c) ∧ Q c w' := by
  unfold actV
  unfold actO at h
  have H := Lib.hid h
  clear h
  go_enter Try.func13, Try.ntmps13
  go_wp2_with (go_at_call 42; refine H.out.mono ?_; rintro e w2 ⟨c, rfl, hq⟩; have HQ := Lib.hid hq; clear hq)
  go_ret
  exact ⟨c, rfl, HQ.out⟩

set_option maxRecDepth 100000 in
theorem write_3 (b : Nat) (n m : Int) (s : ByteArray) (w : World) (Q : Int → World → Prop)
    (h : Calls Try.prog 37 #[.pointer (some ⟨b, 0, none⟩), .int .i64 n] (w.alloc (actO 3 n m s)) fun e w' => ∃ c, e = .returned (.int .i64 c) ∧ Q c w') :
    Calls Try.prog 13 #[.pointer (some ⟨b, 0, none⟩), actV 3 n m s] w fun e w' => ∃ c, e = .returned (.int .i64 c) ∧ Q c w' := by
  unfold actV
  unfold actO at h
  have H := Lib.hid h
  clear h
  go_enter Try.func13, Try.ntmps13
  go_wp2_with (go_at_call 37; refine H.out.mono ?_; rintro e w2 ⟨c, rfl, hq⟩; have HQ := Lib.hid hq; clear hq)
  go_ret
  exact ⟨c, rfl, HQ.out⟩

set_option maxRecDepth 100000 in
theorem write_4 (b : Nat) (n m : Int) (s : ByteArray) (w : World) (Q : Int → World → Prop)
    (h : Calls Try.prog 43 #[.pointer (some ⟨b, 0, none⟩), .int .i64 n] (w.alloc (actO 4 n m s)) fun e w' => ∃ c, e = .returned (.int .i64 c) ∧ Q c w') :
    Calls Try.prog 13 #[.pointer (some ⟨b, 0, none⟩), actV 4 n m s] w fun e w' => ∃ c, e = .returned (.int .i64 c) ∧ Q c w' := by
  unfold actV
  unfold actO at h
  have H := Lib.hid h
  clear h
  go_enter Try.func13, Try.ntmps13
  go_wp2_with (go_at_call 43; refine H.out.mono ?_; rintro e w2 ⟨c, rfl, hq⟩; have HQ := Lib.hid hq; clear hq)
  go_ret
  exact ⟨c, rfl, HQ.out⟩

set_option maxRecDepth 100000 in
theorem write_5 (b : Nat) (n m : Int) (s : ByteArray) (w : World) (Q : Int → World → Prop)
    (h : Calls Try.prog 38 #[.pointer (some ⟨b, 0, none⟩), .string s] (w.alloc (actO 5 n m s)) fun e w' => ∃ c, e = .returned (.int .i64 c) ∧ Q c w') :
    Calls Try.prog 13 #[.pointer (some ⟨b, 0, none⟩), actV 5 n m s] w fun e w' => ∃ c, e = .returned (.int .i64 c) ∧ Q c w' := by
  unfold actV
  unfold actO at h
  have H := Lib.hid h
  clear h
  go_enter Try.func13, Try.ntmps13
  go_wp2_with (go_at_call 38; refine H.out.mono ?_; rintro e w2 ⟨c, rfl, hq⟩; have HQ := Lib.hid hq; clear hq)
  go_ret
  exact ⟨c, rfl, HQ.out⟩

set_option maxRecDepth 100000 in
theorem write_6 (b : Nat) (n m : Int) (s : ByteArray) (w : World) (Q : Int → World → Prop)
    (h : Calls Try.prog 44 #[.pointer (some ⟨b, 0, none⟩), .string s] (w.alloc (actO 6 n m s)) fun e w' => ∃ c, e = .returned (.int .i64 c) ∧ Q c w') :
    Calls Try.prog 13 #[.pointer (some ⟨b, 0, none⟩), actV 6 n m s] w fun e w' => ∃ c, e = .returned (.int .i64 c) ∧ Q c w' := by
  unfold actV
  unfold actO at h
  have H := Lib.hid h
  clear h
  go_enter Try.func13, Try.ntmps13
  go_wp2_with (go_at_call 44; refine H.out.mono ?_; rintro e w2 ⟨c, rfl, hq⟩; have HQ := Lib.hid hq; clear hq)
  go_ret
  exact ⟨c, rfl, HQ.out⟩

set_option maxRecDepth 100000 in
theorem write_7 (b : Nat) (n m : Int) (s : ByteArray) (w : World) (Q : Int → World → Prop)
    (h : Calls Try.prog 45 #[.pointer (some ⟨b, 0, none⟩), .string s] (w.alloc (actO 7 n m s)) fun e w' => ∃ c, e = .returned (.int .i64 c) ∧ Q c w') :
    Calls Try.prog 13 #[.pointer (some ⟨b, 0, none⟩), actV 7 n m s] w fun e w' => ∃ c, e = .returned (.int .i64 c) ∧ Q c w' := by
  unfold actV
  unfold actO at h
  have H := Lib.hid h
  clear h
  go_enter Try.func13, Try.ntmps13
  go_wp2_with (go_at_call 45; refine H.out.mono ?_; rintro e w2 ⟨c, rfl, hq⟩; have HQ := Lib.hid hq; clear hq)
  go_ret
  exact ⟨c, rfl, HQ.out⟩

set_option maxRecDepth 100000 in
theorem write_8 (b : Nat) (n m : Int) (s : ByteArray) (w : World) (Q : Int → World → Prop)
    (h : Calls Try.prog 46 #[.pointer (some ⟨b, 0, none⟩), .int .i64 n] (w.alloc (actO 8 n m s)) fun e w' => ∃ c, e = .returned (.int .i64 c) ∧ Q c w') :
    Calls Try.prog 13 #[.pointer (some ⟨b, 0, none⟩), actV 8 n m s] w fun e w' => ∃ c, e = .returned (.int .i64 c) ∧ Q c w' := by
  unfold actV
  unfold actO at h
  have H := Lib.hid h
  clear h
  go_enter Try.func13, Try.ntmps13
  go_wp2_with (go_at_call 46; refine H.out.mono ?_; rintro e w2 ⟨c, rfl, hq⟩; have HQ := Lib.hid hq; clear hq)
  go_ret
  exact ⟨c, rfl, HQ.out⟩

set_option maxRecDepth 100000 in
theorem write_put (b : Nat) (k n m : Int) (s : ByteArray) (w : World) (Q : Int → World → Prop) (h0 : ¬ k = 0) (h1 : ¬ k = 1) (h2 : ¬ k = 2) (h3 : ¬ k = 3) (h4 : ¬ k = 4) (h5 : ¬ k = 5) (h6 : ¬ k = 6) (h7 : ¬ k = 7) (h8 : ¬ k = 8)
    (h : Calls Try.prog 20 #[.pointer (some ⟨b, 0, none⟩), .int .i64 n, .int .i64 m] (w.alloc (actO k n m s)) fun e w' => ∃ c, e = .returned (.int .i64 c) ∧ Q c w') :
    Calls Try.prog 13 #[.pointer (some ⟨b, 0, none⟩), actV k n m s] w fun e w' => ∃ c, e = .returned (.int .i64 c) ∧ Q c w' := by
  unfold actV
  unfold actO at h
  have H := Lib.hid h
  clear h
  go_enter Try.func13, Try.ntmps13
  go_wp2_with (go_at_call 20; refine H.out.mono ?_; rintro e w2 ⟨c, rfl, hq⟩; have HQ := Lib.hid hq; clear hq)
  go_ret
  exact ⟨c, rfl, HQ.out⟩
end Go.Proofs.Ytdklmeamhcgohaa
