/-
  PROVED HERE: what the law's function answered does with an act: what read does.
-/
import Derived.Test.YtdklmeamhcgohaaRs
import Derived.Test.YtdklmeamhcgohaaRl
namespace Go.Proofs.Ytdklmeamhcgohaa
open Go.RowKit

/-- What holds of the reference's reader behind an act. -/
def SGR (w : World) (b : Nat) (big : Bool) (a : Int) (s : ByteArray) (R : RR) (W : World) : Prop := RdAt W b big a s R.i R.w ∧ w.grownBy W (some b)
theorem SGR.far {w : World} {b : Nat} {big : Bool} {a : Int} {s : ByteArray} {R : RR} {W : World} (h : SGR w b big a s R W) (hb : b < w.heap.size) (p : Addr) (v : Value) (hp : w.heap.size ≤ p.block) : SGR w b big a s R (W.setCell p v) :=
  ⟨h.1.kept (grownBy_setCell2 W p v) (by simp; omega), h.2.andThen (grownBy_setCell2 W p v) (fun j e => by cases e; left; exact hp)⟩

set_option maxRecDepth 100000 in
set_option maxHeartbeats 1600000 in
theorem ans_0 (b : Nat) (big : Bool) (a : Int) (s : ByteArray) (i : Nat) (wr : Bool) (n m : Int) (t : ByteArray) (w : World) (h : RdAt w b big a s i wr) (ha : 0 ≤ a) (ha2 : a ≤ 7) (hs : s.size ≤ 1000000) (hi : i ≤ s.size) :
    Calls Try.prog 24 #[.pointer (some ⟨b, 0, none⟩), actV 0 n m t] w fun e w' => e = .returned (toldV (numA s big a 1 i wr).n noB (numA s big a 1 i wr).e) ∧ SGR w b big a s (numA s big a 1 i wr) w' := by
  have hc := h.kept (readW_grown w 0 n m t none) (by simp)
  have ME := Lib.hid (rdoctet_any b big a s i wr (readW w 0 n m t) hc ha ha2 hs hi)
  obtain ⟨R, hR⟩ : ∃ R, numA s big a 1 i wr = R := ⟨_, rfl⟩
  rw [hR] at ME ⊢
  clear hR hc
  have HL := Lib.hid h.lt
  clear h
  unfold actV toldV noB
  go_enter Try.func24, Try.ntmps24
  go_wp2_with fail
  refine (show Calls Try.prog 67 #[Value.pointer (some { block := b, off := 0 })] (readW w 0 n m t) _ from ME.out.mono ?_)
  rintro e w4 ⟨rfl, h4, g4⟩
  obtain ⟨r0, r1, r2, q0, q1, q2, t0, t1, t2, f0, f1, f2⟩ := ToldS.of HL.out g4
  have H4 := Lib.hid (show SGR w b big a s R w4 from ⟨h4, (readW_grown w 0 n m t (some b)).trans g4⟩)
  clear h4 g4
  obtain ⟨B, hB⟩ : ∃ B, w.heap.size = B := ⟨_, rfl⟩
  have HB := Lib.hid hB
  rw [hB] at r0 r1 r2 q0 q1 q2 t0 t1 t2 f0 f1 f2
  rw [hB]
  clear hB
  go_wp2_with fail
  have hl := HL.out
  have hbb := HB.out
  refine bodyPost_ret (v := toldV R.n { data := #[] } R.e) (by simp [toldV, results, Try.results24, go_sem, *]) rfl ⟨rfl, ?_⟩
  exact (((((H4.out.far hl _ _ (by simp; omega)).far hl _ _ (by simp; omega)).far hl _ _ (by simp; omega)).far hl _ _ (by simp; omega)).far hl _ _ (by simp; omega))

set_option maxRecDepth 100000 in
set_option maxHeartbeats 1600000 in
theorem ans_2 (b : Nat) (big : Bool) (a : Int) (s : ByteArray) (i : Nat) (wr : Bool) (n m : Int) (t : ByteArray) (w : World) (h : RdAt w b big a s i wr) (ha : 0 ≤ a) (ha2 : a ≤ 7) (hs : s.size ≤ 1000000) (hi : i ≤ s.size) :
    Calls Try.prog 24 #[.pointer (some ⟨b, 0, none⟩), actV 2 n m t] w fun e w' => e = .returned (toldV (numA s big a 2 i wr).n noB (numA s big a 2 i wr).e) ∧ SGR w b big a s (numA s big a 2 i wr) w' := by
  have hc := h.kept (readW_grown w 2 n m t none) (by simp)
  have ME := Lib.hid (rdshort_any b big a s i wr (readW w 2 n m t) hc ha ha2 hs hi)
  obtain ⟨R, hR⟩ : ∃ R, numA s big a 2 i wr = R := ⟨_, rfl⟩
  rw [hR] at ME ⊢
  clear hR hc
  have HL := Lib.hid h.lt
  clear h
  unfold actV toldV noB
  go_enter Try.func24, Try.ntmps24
  go_wp2_with fail
  refine (show Calls Try.prog 69 #[Value.pointer (some { block := b, off := 0 })] (readW w 2 n m t) _ from ME.out.mono ?_)
  rintro e w4 ⟨rfl, h4, g4⟩
  obtain ⟨r0, r1, r2, q0, q1, q2, t0, t1, t2, f0, f1, f2⟩ := ToldS.of HL.out g4
  have H4 := Lib.hid (show SGR w b big a s R w4 from ⟨h4, (readW_grown w 2 n m t (some b)).trans g4⟩)
  clear h4 g4
  obtain ⟨B, hB⟩ : ∃ B, w.heap.size = B := ⟨_, rfl⟩
  have HB := Lib.hid hB
  rw [hB] at r0 r1 r2 q0 q1 q2 t0 t1 t2 f0 f1 f2
  rw [hB]
  clear hB
  go_wp2_with fail
  have hl := HL.out
  have hbb := HB.out
  refine bodyPost_ret (v := toldV R.n { data := #[] } R.e) (by simp [toldV, results, Try.results24, go_sem, *]) rfl ⟨rfl, ?_⟩
  exact (((((H4.out.far hl _ _ (by simp; omega)).far hl _ _ (by simp; omega)).far hl _ _ (by simp; omega)).far hl _ _ (by simp; omega)).far hl _ _ (by simp; omega))

set_option maxRecDepth 100000 in
set_option maxHeartbeats 1600000 in
theorem ans_3 (b : Nat) (big : Bool) (a : Int) (s : ByteArray) (i : Nat) (wr : Bool) (n m : Int) (t : ByteArray) (w : World) (h : RdAt w b big a s i wr) (ha : 0 ≤ a) (ha2 : a ≤ 7) (hs : s.size ≤ 1000000) (hi : i ≤ s.size) :
    Calls Try.prog 24 #[.pointer (some ⟨b, 0, none⟩), actV 3 n m t] w fun e w' => e = .returned (toldV (numA s big a 4 i wr).n noB (numA s big a 4 i wr).e) ∧ SGR w b big a s (numA s big a 4 i wr) w' := by
  have hc := h.kept (readW_grown w 3 n m t none) (by simp)
  have ME := Lib.hid (rdlong_any b big a s i wr (readW w 3 n m t) hc ha ha2 hs hi)
  obtain ⟨R, hR⟩ : ∃ R, numA s big a 4 i wr = R := ⟨_, rfl⟩
  rw [hR] at ME ⊢
  clear hR hc
  have HL := Lib.hid h.lt
  clear h
  unfold actV toldV noB
  go_enter Try.func24, Try.ntmps24
  go_wp2_with fail
  refine (show Calls Try.prog 70 #[Value.pointer (some { block := b, off := 0 })] (readW w 3 n m t) _ from ME.out.mono ?_)
  rintro e w4 ⟨rfl, h4, g4⟩
  obtain ⟨r0, r1, r2, q0, q1, q2, t0, t1, t2, f0, f1, f2⟩ := ToldS.of HL.out g4
  have H4 := Lib.hid (show SGR w b big a s R w4 from ⟨h4, (readW_grown w 3 n m t (some b)).trans g4⟩)
  clear h4 g4
  obtain ⟨B, hB⟩ : ∃ B, w.heap.size = B := ⟨_, rfl⟩
  have HB := Lib.hid hB
  rw [hB] at r0 r1 r2 q0 q1 q2 t0 t1 t2 f0 f1 f2
  rw [hB]
  clear hB
  go_wp2_with fail
  have hl := HL.out
  have hbb := HB.out
  refine bodyPost_ret (v := toldV R.n { data := #[] } R.e) (by simp [toldV, results, Try.results24, go_sem, *]) rfl ⟨rfl, ?_⟩
  exact (((((H4.out.far hl _ _ (by simp; omega)).far hl _ _ (by simp; omega)).far hl _ _ (by simp; omega)).far hl _ _ (by simp; omega)).far hl _ _ (by simp; omega))

set_option maxRecDepth 100000 in
set_option maxHeartbeats 1600000 in
theorem ans_4 (b : Nat) (big : Bool) (a : Int) (s : ByteArray) (i : Nat) (wr : Bool) (n m : Int) (t : ByteArray) (w : World) (h : RdAt w b big a s i wr) (ha : 0 ≤ a) (ha2 : a ≤ 7) (hs : s.size ≤ 1000000) (hi : i ≤ s.size) :
    Calls Try.prog 24 #[.pointer (some ⟨b, 0, none⟩), actV 4 n m t] w fun e w' => e = .returned (toldV (numA s big a 8 i wr).n noB (numA s big a 8 i wr).e) ∧ SGR w b big a s (numA s big a 8 i wr) w' := by
  have hc := h.kept (readW_grown w 4 n m t none) (by simp)
  have ME := Lib.hid (rdhuge_any b big a s i wr (readW w 4 n m t) hc ha ha2 hs hi)
  obtain ⟨R, hR⟩ : ∃ R, numA s big a 8 i wr = R := ⟨_, rfl⟩
  rw [hR] at ME ⊢
  clear hR hc
  have HL := Lib.hid h.lt
  clear h
  unfold actV toldV noB
  go_enter Try.func24, Try.ntmps24
  go_wp2_with fail
  refine (show Calls Try.prog 71 #[Value.pointer (some { block := b, off := 0 })] (readW w 4 n m t) _ from ME.out.mono ?_)
  rintro e w4 ⟨rfl, h4, g4⟩
  obtain ⟨r0, r1, r2, q0, q1, q2, t0, t1, t2, f0, f1, f2⟩ := ToldS.of HL.out g4
  have H4 := Lib.hid (show SGR w b big a s R w4 from ⟨h4, (readW_grown w 4 n m t (some b)).trans g4⟩)
  clear h4 g4
  obtain ⟨B, hB⟩ : ∃ B, w.heap.size = B := ⟨_, rfl⟩
  have HB := Lib.hid hB
  rw [hB] at r0 r1 r2 q0 q1 q2 t0 t1 t2 f0 f1 f2
  rw [hB]
  clear hB
  go_wp2_with fail
  have hl := HL.out
  have hbb := HB.out
  refine bodyPost_ret (v := toldV R.n { data := #[] } R.e) (by simp [toldV, results, Try.results24, go_sem, *]) rfl ⟨rfl, ?_⟩
  exact (((((H4.out.far hl _ _ (by simp; omega)).far hl _ _ (by simp; omega)).far hl _ _ (by simp; omega)).far hl _ _ (by simp; omega)).far hl _ _ (by simp; omega))

set_option maxRecDepth 100000 in
set_option maxHeartbeats 1600000 in
theorem ans_5 (b : Nat) (big : Bool) (a : Int) (s : ByteArray) (i : Nat) (wr : Bool) (n m : Int) (t : ByteArray) (w : World) (h : RdAt w b big a s i wr) (ha : 0 ≤ a) (ha2 : a ≤ 7) (hs : s.size ≤ 1000000) (hi : i ≤ s.size) :
    Calls Try.prog 24 #[.pointer (some ⟨b, 0, none⟩), actV 5 n m t] w fun e w' => e = .returned (toldV 0 (textA s big a i wr).t (textA s big a i wr).e) ∧ SGR w b big a s (textA s big a i wr) w' := by
  have hc := h.kept (readW_grown w 5 n m t none) (by simp)
  have ME := Lib.hid (rdtext_any b big a s i wr (readW w 5 n m t) hc ha ha2 hs hi)
  obtain ⟨R, hR⟩ : ∃ R, textA s big a i wr = R := ⟨_, rfl⟩
  rw [hR] at ME ⊢
  clear hR hc
  have HL := Lib.hid h.lt
  clear h
  unfold actV toldV
  go_enter Try.func24, Try.ntmps24
  go_wp2_with fail
  refine (show Calls Try.prog 72 #[Value.pointer (some { block := b, off := 0 })] (readW w 5 n m t) _ from ME.out.mono ?_)
  rintro e w4 ⟨rfl, h4, g4⟩
  obtain ⟨r0, r1, r2, q0, q1, q2, t0, t1, t2, f0, f1, f2⟩ := ToldS.of HL.out g4
  have H4 := Lib.hid (show SGR w b big a s R w4 from ⟨h4, (readW_grown w 5 n m t (some b)).trans g4⟩)
  clear h4 g4
  obtain ⟨B, hB⟩ : ∃ B, w.heap.size = B := ⟨_, rfl⟩
  have HB := Lib.hid hB
  rw [hB] at r0 r1 r2 q0 q1 q2 t0 t1 t2 f0 f1 f2
  rw [hB]
  clear hB
  go_wp2_with fail
  have hl := HL.out
  have hbb := HB.out
  refine bodyPost_ret (v := toldV 0 R.t R.e) (by simp [toldV, results, Try.results24, go_sem, *]) rfl ⟨rfl, ?_⟩
  exact (((((H4.out.far hl _ _ (by simp; omega)).far hl _ _ (by simp; omega)).far hl _ _ (by simp; omega)).far hl _ _ (by simp; omega)).far hl _ _ (by simp; omega))

set_option maxRecDepth 100000 in
set_option maxHeartbeats 1600000 in
theorem ans_6 (b : Nat) (big : Bool) (a : Int) (s : ByteArray) (i : Nat) (wr : Bool) (n m : Int) (t : ByteArray) (w : World) (h : RdAt w b big a s i wr) (ha : 0 ≤ a) (ha2 : a ≤ 7) (hs : s.size ≤ 1000000) (hi : i ≤ s.size) :
    Calls Try.prog 24 #[.pointer (some ⟨b, 0, none⟩), actV 6 n m t] w fun e w' => e = .returned (toldV 0 (cntA s big a 0 i wr).t (cntA s big a 0 i wr).e) ∧ SGR w b big a s (cntA s big a 0 i wr) w' := by
  have hc := h.kept (readW_grown w 6 n m t none) (by simp)
  have ME := Lib.hid (rdbytes_any b big a s i wr (readW w 6 n m t) hc ha ha2 hs hi)
  obtain ⟨R, hR⟩ : ∃ R, cntA s big a 0 i wr = R := ⟨_, rfl⟩
  rw [hR] at ME ⊢
  clear hR hc
  have HL := Lib.hid h.lt
  clear h
  unfold actV toldV
  go_enter Try.func24, Try.ntmps24
  go_wp2_with fail
  refine (show Calls Try.prog 73 #[Value.pointer (some { block := b, off := 0 })] (readW w 6 n m t) _ from ME.out.mono ?_)
  rintro e w4 ⟨rfl, h4, g4⟩
  obtain ⟨r0, r1, r2, q0, q1, q2, t0, t1, t2, f0, f1, f2⟩ := ToldS.of HL.out g4
  have H4 := Lib.hid (show SGR w b big a s R w4 from ⟨h4, (readW_grown w 6 n m t (some b)).trans g4⟩)
  clear h4 g4
  obtain ⟨B, hB⟩ : ∃ B, w.heap.size = B := ⟨_, rfl⟩
  have HB := Lib.hid hB
  rw [hB] at r0 r1 r2 q0 q1 q2 t0 t1 t2 f0 f1 f2
  rw [hB]
  clear hB
  go_wp2_with fail
  have hl := HL.out
  have hbb := HB.out
  refine bodyPost_ret (v := toldV 0 R.t R.e) (by simp [toldV, results, Try.results24, go_sem, *]) rfl ⟨rfl, ?_⟩
  exact (((((H4.out.far hl _ _ (by simp; omega)).far hl _ _ (by simp; omega)).far hl _ _ (by simp; omega)).far hl _ _ (by simp; omega)).far hl _ _ (by simp; omega))

set_option maxRecDepth 100000 in
set_option maxHeartbeats 1600000 in
theorem ans_7 (b : Nat) (big : Bool) (a : Int) (s : ByteArray) (i : Nat) (wr : Bool) (n m : Int) (t : ByteArray) (w : World) (h : RdAt w b big a s i wr) (ha : 0 ≤ a) (ha2 : a ≤ 7) (hs : s.size ≤ 1000000) (hi : i ≤ s.size) :
    Calls Try.prog 24 #[.pointer (some ⟨b, 0, none⟩), actV 7 n m t] w fun e w' => e = .returned (toldV 0 (rawA s n i wr).t (rawA s n i wr).e) ∧ SGR w b big a s (rawA s n i wr) w' := by
  have hc := h.kept (readW_grown w 7 n m t none) (by simp)
  have ME := Lib.hid (rdraw_any b big a n s i wr (readW w 7 n m t) hc ha ha2 hs hi)
  obtain ⟨R, hR⟩ : ∃ R, rawA s n i wr = R := ⟨_, rfl⟩
  rw [hR] at ME ⊢
  clear hR hc
  have HL := Lib.hid h.lt
  clear h
  unfold actV toldV
  go_enter Try.func24, Try.ntmps24
  go_wp2_with fail
  refine (show Calls Try.prog 74 #[Value.pointer (some { block := b, off := 0 }), Value.int IntKind.i64 n] (readW w 7 n m t) _ from ME.out.mono ?_)
  rintro e w4 ⟨rfl, h4, g4⟩
  obtain ⟨r0, r1, r2, q0, q1, q2, t0, t1, t2, f0, f1, f2⟩ := ToldS.of HL.out g4
  have H4 := Lib.hid (show SGR w b big a s R w4 from ⟨h4, (readW_grown w 7 n m t (some b)).trans g4⟩)
  clear h4 g4
  obtain ⟨B, hB⟩ : ∃ B, w.heap.size = B := ⟨_, rfl⟩
  have HB := Lib.hid hB
  rw [hB] at r0 r1 r2 q0 q1 q2 t0 t1 t2 f0 f1 f2
  rw [hB]
  clear hB
  go_wp2_with fail
  have hl := HL.out
  have hbb := HB.out
  refine bodyPost_ret (v := toldV 0 R.t R.e) (by simp [toldV, results, Try.results24, go_sem, *]) rfl ⟨rfl, ?_⟩
  exact (((((H4.out.far hl _ _ (by simp; omega)).far hl _ _ (by simp; omega)).far hl _ _ (by simp; omega)).far hl _ _ (by simp; omega)).far hl _ _ (by simp; omega))

set_option maxRecDepth 100000 in
set_option maxHeartbeats 1600000 in
theorem ans_align (b : Nat) (big : Bool) (a : Int) (s : ByteArray) (i : Nat) (wr : Bool) (n m : Int) (t : ByteArray) (w : World) (h : RdAt w b big a s i wr) (ha : 0 ≤ a) (ha2 : a ≤ 7) (hs : s.size ≤ 1000000) (hi : i ≤ s.size) (k : Int) (k0 : ¬ k = 0) (k1 : ¬ k = 1) (k2 : ¬ k = 2) (k3 : ¬ k = 3) (k4 : ¬ k = 4) (k5 : ¬ k = 5) (k6 : ¬ k = 6) (k7 : ¬ k = 7) :
    Calls Try.prog 24 #[.pointer (some ⟨b, 0, none⟩), actV k n m t] w fun e w' => e = .returned (toldV 0 noB (algA s a n i wr).e) ∧ SGR w b big a s (algA s a n i wr) w' := by
  have hc := h.kept (readW_grown w k n m t none) (by simp)
  have ME := Lib.hid (rdalign_any b big a n s i wr (readW w k n m t) hc ha ha2 hs hi)
  obtain ⟨R, hR⟩ : ∃ R, algA s a n i wr = R := ⟨_, rfl⟩
  rw [hR] at ME ⊢
  clear hR hc
  have HL := Lib.hid h.lt
  clear h
  unfold actV toldV noB
  go_enter Try.func24, Try.ntmps24
  go_wp2_with fail
  refine (show Calls Try.prog 75 #[Value.pointer (some { block := b, off := 0 }), Value.int IntKind.i64 n] (readW w k n m t) _ from ME.out.mono ?_)
  rintro e w4 ⟨rfl, h4, g4⟩
  obtain ⟨r0, r1, r2, q0, q1, q2, t0, t1, t2, f0, f1, f2⟩ := ToldS.of HL.out g4
  have H4 := Lib.hid (show SGR w b big a s R w4 from ⟨h4, (readW_grown w k n m t (some b)).trans g4⟩)
  clear h4 g4
  obtain ⟨B, hB⟩ : ∃ B, w.heap.size = B := ⟨_, rfl⟩
  have HB := Lib.hid hB
  rw [hB] at r0 r1 r2 q0 q1 q2 t0 t1 t2 f0 f1 f2
  rw [hB]
  clear hB
  go_wp2_with fail
  have hl := HL.out
  have hbb := HB.out
  refine bodyPost_ret (v := toldV 0 { data := #[] } R.e) (by simp [toldV, results, Try.results24, go_sem, *]) rfl ⟨rfl, ?_⟩
  exact ((((H4.out.far hl _ _ (by simp; omega)).far hl _ _ (by simp; omega)).far hl _ _ (by simp; omega)).far hl _ _ (by simp; omega))

set_option maxRecDepth 100000 in
set_option maxHeartbeats 1600000 in
theorem ans_1 (b : Nat) (big : Bool) (a : Int) (s : ByteArray) (i : Nat) (wr : Bool) (n m : Int) (t : ByteArray) (w : World) (h : RdAt w b big a s i wr) (ha : 0 ≤ a) (ha2 : a ≤ 7) (hs : s.size ≤ 1000000) (hi : i ≤ s.size) :
    Calls Try.prog 24 #[.pointer (some ⟨b, 0, none⟩), actV 1 n m t] w fun e w' => e = .returned (toldV (flagA s big a i wr).n noB (flagA s big a i wr).e) ∧ SGR w b big a s (flagA s big a i wr) w' := by
  have hc := h.kept (readW_grown w 1 n m t none) (by simp)
  have ME := rdflag_any b big a s i wr (readW w 1 n m t) hc ha ha2 hs hi
  have hfn : (flagA s big a i wr).n = 0 ∨ (flagA s big a i wr).n = 1 := flag_n _
  obtain ⟨R, hR⟩ : ∃ R, flagA s big a i wr = R := ⟨_, rfl⟩
  rw [hR] at ME hfn ⊢
  clear hR hc
  have HL := Lib.hid h.lt
  clear h
  unfold actV toldV noB
  rcases hfn with hv | hv
  · have ME : Hid (Calls Try.prog 68 #[.pointer (some ⟨b, 0, none⟩)] (readW w 1 n m t) fun e w' => e = .returned (.tuple #[.bool false, .int .i64 R.e]) ∧ SG (readW w 1 n m t) b big a s R.i R.w w') := by
      rw [show false = decide (R.n = 1) from by rw [hv]; rfl]
      exact ME
    rw [hv]
    clear hv
    go_enter Try.func24, Try.ntmps24
    go_wp2_with fail
    refine (show Calls Try.prog 68 #[Value.pointer (some { block := b, off := 0 })] (readW w 1 n m t) _ from ME.out.mono ?_)
    rintro e w4 ⟨rfl, h4, g4⟩
    obtain ⟨r0, r1, r2, q0, q1, q2, t0, t1, t2, f0, f1, f2⟩ := ToldS.of HL.out g4
    have H4 := Lib.hid (show SGR w b big a s R w4 from ⟨h4, (readW_grown w 1 n m t (some b)).trans g4⟩)
    clear h4 g4
    obtain ⟨B, hB⟩ : ∃ B, w.heap.size = B := ⟨_, rfl⟩
    have HB := Lib.hid hB
    rw [hB] at r0 r1 r2 q0 q1 q2 t0 t1 t2 f0 f1 f2
    rw [hB]
    clear hB
    go_wp2_with fail
    have hl := HL.out
    have hbb := HB.out
    refine bodyPost_ret (v := toldV 0 { data := #[] } R.e) (by simp [toldV, results, Try.results24, go_sem, *]) rfl ⟨rfl, ?_⟩
    exact ((((H4.out.far hl _ _ (by simp; omega)).far hl _ _ (by simp; omega)).far hl _ _ (by simp; omega)).far hl _ _ (by simp; omega))
  · have ME : Hid (Calls Try.prog 68 #[.pointer (some ⟨b, 0, none⟩)] (readW w 1 n m t) fun e w' => e = .returned (.tuple #[.bool true, .int .i64 R.e]) ∧ SG (readW w 1 n m t) b big a s R.i R.w w') := by
      rw [show true = decide (R.n = 1) from by rw [hv]; rfl]
      exact ME
    rw [hv]
    clear hv
    go_enter Try.func24, Try.ntmps24
    go_wp2_with fail
    refine (show Calls Try.prog 68 #[Value.pointer (some { block := b, off := 0 })] (readW w 1 n m t) _ from ME.out.mono ?_)
    rintro e w4 ⟨rfl, h4, g4⟩
    obtain ⟨r0, r1, r2, q0, q1, q2, t0, t1, t2, f0, f1, f2⟩ := ToldS.of HL.out g4
    have H4 := Lib.hid (show SGR w b big a s R w4 from ⟨h4, (readW_grown w 1 n m t (some b)).trans g4⟩)
    clear h4 g4
    obtain ⟨B, hB⟩ : ∃ B, w.heap.size = B := ⟨_, rfl⟩
    have HB := Lib.hid hB
    rw [hB] at r0 r1 r2 q0 q1 q2 t0 t1 t2 f0 f1 f2
    rw [hB]
    clear hB
    go_wp2_with fail
    have hl := HL.out
    have hbb := HB.out
    refine bodyPost_ret (v := toldV 1 { data := #[] } R.e) (by simp [toldV, results, Try.results24, go_sem, *]) rfl ⟨rfl, ?_⟩
    exact (((((H4.out.far hl _ _ (by simp; omega)).far hl _ _ (by simp; omega)).far hl _ _ (by simp; omega)).far hl _ _ (by simp; omega)).far hl _ _ (by simp; omega))

/-- THE LAW's answered: what rdA says. -/
theorem answered_any (b : Nat) (big : Bool) (a : Int) (s : ByteArray) (i : Nat) (wr : Bool) (k n m : Int) (t : ByteArray) (w : World) (h : RdAt w b big a s i wr) (ha : 0 ≤ a) (ha2 : a ≤ 7) (hs : s.size ≤ 1000000) (hi : i ≤ s.size) :
    Calls Try.prog 24 #[.pointer (some ⟨b, 0, none⟩), actV k n m t] w fun e w' => e = .returned (toldV (rdA s big a k n i wr).n (rdA s big a k n i wr).t (rdA s big a k n i wr).e) ∧ SGR w b big a s (rdA s big a k n i wr) w' := by
  unfold rdA
  by_cases k0 : k = 0
  · subst k0; exact ans_0 b big a s i wr n m t w h ha ha2 hs hi
  rw [if_neg k0]
  by_cases k1 : k = 1
  · subst k1; rw [if_pos rfl, show (flagA s big a i wr).t = noB from flag_t _]; exact ans_1 b big a s i wr n m t w h ha ha2 hs hi
  rw [if_neg k1]
  by_cases k2 : k = 2
  · subst k2; exact ans_2 b big a s i wr n m t w h ha ha2 hs hi
  rw [if_neg k2]
  by_cases k3 : k = 3
  · subst k3; exact ans_3 b big a s i wr n m t w h ha ha2 hs hi
  rw [if_neg k3]
  by_cases k4 : k = 4
  · subst k4; exact ans_4 b big a s i wr n m t w h ha ha2 hs hi
  rw [if_neg k4]
  by_cases k5 : k = 5
  · subst k5; rw [if_pos rfl, show (textA s big a i wr).n = 0 from text_n _]; exact ans_5 b big a s i wr n m t w h ha ha2 hs hi
  rw [if_neg k5]
  by_cases k6 : k = 6
  · subst k6; rw [if_pos rfl, show (cntA s big a 0 i wr).n = 0 from cnt_n _ _ _]; exact ans_6 b big a s i wr n m t w h ha ha2 hs hi
  rw [if_neg k6]
  by_cases k7 : k = 7
  · subst k7; rw [if_pos rfl, raw_n]; exact ans_7 b big a s i wr n m t w h ha ha2 hs hi
  rw [if_neg k7, alg_n, alg_t]
  exact ans_align b big a s i wr n m t w h ha ha2 hs hi k k0 k1 k2 k3 k4 k5 k6 k7

end Go.Proofs.Ytdklmeamhcgohaa
