/-
  PROVED HERE: what the law's function wrote does with an act: it calls the method that the act's kind names, in a world with one new block, and returns what that returns.
-/
import Derived.Test.YtdklmeamhcgohaaX
namespace Go.Proofs.Ytdklmeamhcgohaa
open Go.RowKit

set_option maxRecDepth 100000 in
theorem wrote_0 (b : Nat) (n m : Int) (s : ByteArray) (w : World) (Q : Int → World → Prop)
    (h : Calls Try.prog 47 #[.pointer (some ⟨b, 0, none⟩), .int .i64 n] (w.alloc (actO 0 n m s)) fun e w' => ∃ c, e = .returned (.int .i64 c) ∧ Q c w') :
    Calls Try.prog 14 #[.pointer (some ⟨b, 0, none⟩), actV 0 n m s] w fun e w' => ∃ c, e = .returned (.int .i64 c) ∧ Q c w' := by
  unfold actV
  unfold actO at h
  have H := Lib.hid h
  clear h
  go_enter Try.func14, Try.ntmps14
  go_wp2_with (go_at_call 47; refine H.out.mono ?_; rintro e w2 ⟨c, rfl, hq⟩; have HQ := Lib.hid hq; clear hq)
  go_ret
  exact ⟨c, rfl, HQ.out⟩

set_option maxRecDepth 100000 in
theorem wrote_1 (b : Nat) (n m : Int) (s : ByteArray) (w : World) (Q : Int → World → Prop)
    (h : Calls Try.prog 48 #[.pointer (some ⟨b, 0, none⟩), .bool (n == 1)] (w.alloc (actO 1 n m s)) fun e w' => ∃ c, e = .returned (.int .i64 c) ∧ Q c w') :
    Calls Try.prog 14 #[.pointer (some ⟨b, 0, none⟩), actV 1 n m s] w fun e w' => ∃ c, e = .returned (.int .i64 c) ∧ Q c w' := by
  unfold actV
  unfold actO at h
  have H := Lib.hid h
  clear h
  go_enter Try.func14, Try.ntmps14
  go_wp2_with (go_at_call 48; refine H.out.mono ?_; rintro e w2 ⟨c, rfl, hq⟩; have HQ := Lib.hid hq; clear hq)
  go_ret
  exact ⟨c, rfl, HQ.out⟩

set_option maxRecDepth 100000 in
theorem wrote_2 (b : Nat) (n m : Int) (s : ByteArray) (w : World) (Q : Int → World → Prop)
    (h : Calls Try.prog 49 #[.pointer (some ⟨b, 0, none⟩), .int .i64 n] (w.alloc (actO 2 n m s)) fun e w' => ∃ c, e = .returned (.int .i64 c) ∧ Q c w') :
    Calls Try.prog 14 #[.pointer (some ⟨b, 0, none⟩), actV 2 n m s] w fun e w' => ∃ c, e = .returned (.int .i64 c) ∧ Q c w' := by
  unfold actV
  unfold actO at h
  have H := Lib.hid h
  clear h
  go_enter Try.func14, Try.ntmps14
  go_wp2_with (go_at_call 49; refine H.out.mono ?_; rintro e w2 ⟨c, rfl, hq⟩; have HQ := Lib.hid hq; clear hq)
  go_ret
  exact ⟨c, rfl, HQ.out⟩

set_option maxRecDepth 100000 in
theorem wrote_3 (b : Nat) (n m : Int) (s : ByteArray) (w : World) (Q : Int → World → Prop)
    (h : Calls Try.prog 50 #[.pointer (some ⟨b, 0, none⟩), .int .i64 n] (w.alloc (actO 3 n m s)) fun e w' => ∃ c, e = .returned (.int .i64 c) ∧ Q c w') :
    Calls Try.prog 14 #[.pointer (some ⟨b, 0, none⟩), actV 3 n m s] w fun e w' => ∃ c, e = .returned (.int .i64 c) ∧ Q c w' := by
  unfold actV
  unfold actO at h
  have H := Lib.hid h
  clear h
  go_enter Try.func14, Try.ntmps14
  go_wp2_with (go_at_call 50; refine H.out.mono ?_; rintro e w2 ⟨c, rfl, hq⟩; have HQ := Lib.hid hq; clear hq)
  go_ret
  exact ⟨c, rfl, HQ.out⟩

set_option maxRecDepth 100000 in
theorem wrote_4 (b : Nat) (n m : Int) (s : ByteArray) (w : World) (Q : Int → World → Prop)
    (h : Calls Try.prog 51 #[.pointer (some ⟨b, 0, none⟩), .int .i64 n] (w.alloc (actO 4 n m s)) fun e w' => ∃ c, e = .returned (.int .i64 c) ∧ Q c w') :
    Calls Try.prog 14 #[.pointer (some ⟨b, 0, none⟩), actV 4 n m s] w fun e w' => ∃ c, e = .returned (.int .i64 c) ∧ Q c w' := by
  unfold actV
  unfold actO at h
  have H := Lib.hid h
  clear h
  go_enter Try.func14, Try.ntmps14
  go_wp2_with (go_at_call 51; refine H.out.mono ?_; rintro e w2 ⟨c, rfl, hq⟩; have HQ := Lib.hid hq; clear hq)
  go_ret
  exact ⟨c, rfl, HQ.out⟩

set_option maxRecDepth 100000 in
theorem wrote_5 (b : Nat) (n m : Int) (s : ByteArray) (w : World) (Q : Int → World → Prop)
    (h : Calls Try.prog 52 #[.pointer (some ⟨b, 0, none⟩), .string s] (w.alloc (actO 5 n m s)) fun e w' => ∃ c, e = .returned (.int .i64 c) ∧ Q c w') :
    Calls Try.prog 14 #[.pointer (some ⟨b, 0, none⟩), actV 5 n m s] w fun e w' => ∃ c, e = .returned (.int .i64 c) ∧ Q c w' := by
  unfold actV
  unfold actO at h
  have H := Lib.hid h
  clear h
  go_enter Try.func14, Try.ntmps14
  go_wp2_with (go_at_call 52; refine H.out.mono ?_; rintro e w2 ⟨c, rfl, hq⟩; have HQ := Lib.hid hq; clear hq)
  go_ret
  exact ⟨c, rfl, HQ.out⟩

set_option maxRecDepth 100000 in
theorem wrote_6 (b : Nat) (n m : Int) (s : ByteArray) (w : World) (Q : Int → World → Prop)
    (h : Calls Try.prog 53 #[.pointer (some ⟨b, 0, none⟩), .string s] (w.alloc (actO 6 n m s)) fun e w' => ∃ c, e = .returned (.int .i64 c) ∧ Q c w') :
    Calls Try.prog 14 #[.pointer (some ⟨b, 0, none⟩), actV 6 n m s] w fun e w' => ∃ c, e = .returned (.int .i64 c) ∧ Q c w' := by
  unfold actV
  unfold actO at h
  have H := Lib.hid h
  clear h
  go_enter Try.func14, Try.ntmps14
  go_wp2_with (go_at_call 53; refine H.out.mono ?_; rintro e w2 ⟨c, rfl, hq⟩; have HQ := Lib.hid hq; clear hq)
  go_ret
  exact ⟨c, rfl, HQ.out⟩

set_option maxRecDepth 100000 in
theorem wrote_7 (b : Nat) (n m : Int) (s : ByteArray) (w : World) (Q : Int → World → Prop)
    (h : Calls Try.prog 54 #[.pointer (some ⟨b, 0, none⟩), .string s] (w.alloc (actO 7 n m s)) fun e w' => ∃ c, e = .returned (.int .i64 c) ∧ Q c w') :
    Calls Try.prog 14 #[.pointer (some ⟨b, 0, none⟩), actV 7 n m s] w fun e w' => ∃ c, e = .returned (.int .i64 c) ∧ Q c w' := by
  unfold actV
  unfold actO at h
  have H := Lib.hid h
  clear h
  go_enter Try.func14, Try.ntmps14
  go_wp2_with (go_at_call 54; refine H.out.mono ?_; rintro e w2 ⟨c, rfl, hq⟩; have HQ := Lib.hid hq; clear hq)
  go_ret
  exact ⟨c, rfl, HQ.out⟩

set_option maxRecDepth 100000 in
theorem wrote_8 (b : Nat) (n m : Int) (s : ByteArray) (w : World) (Q : Int → World → Prop)
    (h : Calls Try.prog 55 #[.pointer (some ⟨b, 0, none⟩), .int .i64 n] (w.alloc (actO 8 n m s)) fun e w' => ∃ c, e = .returned (.int .i64 c) ∧ Q c w') :
    Calls Try.prog 14 #[.pointer (some ⟨b, 0, none⟩), actV 8 n m s] w fun e w' => ∃ c, e = .returned (.int .i64 c) ∧ Q c w' := by
  unfold actV
  unfold actO at h
  have H := Lib.hid h
  clear h
  go_enter Try.func14, Try.ntmps14
  go_wp2_with (go_at_call 55; refine H.out.mono ?_; rintro e w2 ⟨c, rfl, hq⟩; have HQ := Lib.hid hq; clear hq)
  go_ret
  exact ⟨c, rfl, HQ.out⟩

set_option maxRecDepth 100000 in
theorem wrote_put (b : Nat) (k n m : Int) (s : ByteArray) (w : World) (Q : Int → World → Prop) (h0 : ¬ k = 0) (h1 : ¬ k = 1) (h2 : ¬ k = 2) (h3 : ¬ k = 3) (h4 : ¬ k = 4) (h5 : ¬ k = 5) (h6 : ¬ k = 6) (h7 : ¬ k = 7) (h8 : ¬ k = 8)
    (h : Calls Try.prog 56 #[.pointer (some ⟨b, 0, none⟩), .int .i64 n, .int .i64 m] (w.alloc (actO k n m s)) fun e w' => ∃ c, e = .returned (.int .i64 c) ∧ Q c w') :
    Calls Try.prog 14 #[.pointer (some ⟨b, 0, none⟩), actV k n m s] w fun e w' => ∃ c, e = .returned (.int .i64 c) ∧ Q c w' := by
  unfold actV
  unfold actO at h
  have H := Lib.hid h
  clear h
  go_enter Try.func14, Try.ntmps14
  go_wp2_with (go_at_call 56; refine H.out.mono ?_; rintro e w2 ⟨c, rfl, hq⟩; have HQ := Lib.hid hq; clear hq)
  go_ret
  exact ⟨c, rfl, HQ.out⟩
end Go.Proofs.Ytdklmeamhcgohaa
