/-
  PROVED HERE: what the law's function read does with an act: it calls the method that the act's kind names, and tells what that returns.
-/
import Derived.Test.YtdklmeamhcgohaaRj
namespace Go.Proofs.Ytdklmeamhcgohaa
open Go.RowKit

/-- What is told, as a value. -/
def toldV (n : Int) (t : ByteArray) (e : Int) : Value := .agg #[.int .i64 n, .string t, .int .i64 e]

/-- The world where read calls a method: the act, the result, what is told. -/
def readW (w : World) (k n m : Int) (t : ByteArray) : World := ((w.alloc (actO k n m t)).alloc (.cells #[.int .i64 0, .string { data := #[] }, .int .i64 0] 44)).alloc (.cells #[.int .i64 0, .string { data := #[] }, .int .i64 0] 44)

theorem readW_grown (w : World) (k n m : Int) (t : ByteArray) (r : Option Nat) : w.grownBy (readW w k n m t) r :=
  ((World.grownBy_alloc w _ r).trans (World.grownBy_alloc _ _ r)).trans (World.grownBy_alloc _ _ r)
theorem readW_size (w : World) (k n m : Int) (t : ByteArray) : (readW w k n m t).heap.size = w.heap.size + 3 := by simp [readW]
theorem readW_a (w : World) (k n m : Int) (t : ByteArray) : (readW w k n m t).heap[w.heap.size]? = some (actO k n m t) :=
  (Below.heap_alloc _ _ _ (by simp; omega)).trans ((Below.heap_alloc _ _ _ (by simp)).trans (heap_alloc_new w _))
theorem readW_r (w : World) (k n m : Int) (t : ByteArray) : (readW w k n m t).heap[w.heap.size + 1]? = some (.cells #[.int .i64 0, .string { data := #[] }, .int .i64 0] 44) := by
  refine (Below.heap_alloc _ _ _ (by simp)).trans ?_
  have := heap_alloc_new (w.alloc (actO k n m t)) (.cells #[.int .i64 0, .string { data := #[] }, .int .i64 0] 44)
  rwa [World.size_alloc] at this
theorem readW_t (w : World) (k n m : Int) (t : ByteArray) : (readW w k n m t).heap[w.heap.size + 1 + 1]? = some (.cells #[.int .i64 0, .string { data := #[] }, .int .i64 0] 44) := by
  have := heap_alloc_new ((w.alloc (actO k n m t)).alloc (.cells #[.int .i64 0, .string { data := #[] }, .int .i64 0] 44)) (.cells #[.int .i64 0, .string { data := #[] }, .int .i64 0] 44)
  rwa [World.size_alloc, World.size_alloc] at this

/-- BEHIND THE CALL: what is told lies in block B + 2, the result in B + 1. -/
structure ToldS (W : World) (B : Nat) : Prop where
  r0 : W.cell? ⟨B + 1, 0, none⟩ = some (.int .i64 0)
  r1 : W.cell? ⟨B + 1, 1, none⟩ = some (.string { data := #[] })
  r2 : W.cell? ⟨B + 1, 2, none⟩ = some (.int .i64 0)
  q0 : W.frozen? ⟨B + 1, 0, none⟩ = false
  q1 : W.frozen? ⟨B + 1, 1, none⟩ = false
  q2 : W.frozen? ⟨B + 1, 2, none⟩ = false
  t0 : W.cell? ⟨B + 1 + 1, 0, none⟩ = some (.int .i64 0)
  t1 : W.cell? ⟨B + 1 + 1, 1, none⟩ = some (.string { data := #[] })
  t2 : W.cell? ⟨B + 1 + 1, 2, none⟩ = some (.int .i64 0)
  f0 : W.frozen? ⟨B + 1 + 1, 0, none⟩ = false
  f1 : W.frozen? ⟨B + 1 + 1, 1, none⟩ = false
  f2 : W.frozen? ⟨B + 1 + 1, 2, none⟩ = false

theorem ToldS.of {w W : World} {k n m : Int} {t : ByteArray} {b : Nat} (hb : b < w.heap.size) (hg : (readW w k n m t).grownBy W (some b)) : ToldS W w.heap.size := by
  have h1 : W.heap[w.heap.size + 1]? = some (.cells #[.int .i64 0, .string { data := #[] }, .int .i64 0] 44) := (hg.block _ (by rw [readW_size]; omega) (by simp; omega)).trans (readW_r w k n m t)
  have h2 : W.heap[w.heap.size + 1 + 1]? = some (.cells #[.int .i64 0, .string { data := #[] }, .int .i64 0] 44) := (hg.block _ (by rw [readW_size]; omega) (by simp; omega)).trans (readW_t w k n m t)
  constructor <;> simp [World.cell?, World.frozen?, h1, h2]

/-- What holds of the reader behind an act. -/
def RG (w : World) (b : Nat) (big : Bool) (a : Int) (s : ByteArray) (R : RR) (W : World) : Prop := CdAt W b big a s R.i R.w ∧ w.grownBy W (some b)
theorem RG.far {w : World} {b : Nat} {big : Bool} {a : Int} {s : ByteArray} {R : RR} {W : World} (h : RG w b big a s R W) (hb : b < w.heap.size) (p : Addr) (v : Value) (hp : w.heap.size ≤ p.block) : RG w b big a s R (W.setCell p v) :=
  ⟨h.1.kept (grownBy_setCell2 W p v) (by simp; omega), h.2.andThen (grownBy_setCell2 W p v) (fun j e => by cases e; left; exact hp)⟩

set_option maxRecDepth 100000 in
set_option maxHeartbeats 1600000 in
theorem read_0 (b : Nat) (big : Bool) (a : Int) (s : ByteArray) (i : Nat) (wr : Bool) (n m : Int) (t : ByteArray) (w : World) (h : CdAt w b big a s i wr) (ha : 0 ≤ a) (ha2 : a ≤ 7) (hs : s.size ≤ 1000000) (hi : i ≤ s.size) :
    Calls Try.prog 23 #[.pointer (some ⟨b, 0, none⟩), actV 0 n m t] w fun e w' => e = .returned (toldV (numA s big a 1 i wr).n noB (numA s big a 1 i wr).e) ∧ RG w b big a s (numA s big a 1 i wr) w' := by
  have hc := h.kept (readW_grown w 0 n m t none) (by simp)
  have ME := Lib.hid (coctet_any b big a s i wr (readW w 0 n m t) hc ha ha2 hs hi)
  obtain ⟨R, hR⟩ : ∃ R, numA s big a 1 i wr = R := ⟨_, rfl⟩
  rw [hR] at ME ⊢
  clear hR hc
  have HL := Lib.hid h.lt
  clear h
  unfold actV toldV noB
  go_enter Try.func23, Try.ntmps23
  go_wp2_with fail
  refine (show Calls Try.prog 60 #[Value.pointer (some { block := b, off := 0 })] (readW w 0 n m t) _ from ME.out.mono ?_)
  rintro e w4 ⟨rfl, h4, g4⟩
  obtain ⟨r0, r1, r2, q0, q1, q2, t0, t1, t2, f0, f1, f2⟩ := ToldS.of HL.out g4
  have H4 := Lib.hid (show RG w b big a s R w4 from ⟨h4, (readW_grown w 0 n m t (some b)).trans g4⟩)
  clear h4 g4
  obtain ⟨B, hB⟩ : ∃ B, w.heap.size = B := ⟨_, rfl⟩
  have HB := Lib.hid hB
  rw [hB] at r0 r1 r2 q0 q1 q2 t0 t1 t2 f0 f1 f2
  rw [hB]
  clear hB
  go_wp2_with fail
  have hl := HL.out
  have hbb := HB.out
  refine bodyPost_ret (v := toldV R.n { data := #[] } R.e) (by simp [toldV, results, Try.results23, go_sem, *]) rfl ⟨rfl, ?_⟩
  exact (((((H4.out.far hl _ _ (by simp; omega)).far hl _ _ (by simp; omega)).far hl _ _ (by simp; omega)).far hl _ _ (by simp; omega)).far hl _ _ (by simp; omega))

set_option maxRecDepth 100000 in
set_option maxHeartbeats 1600000 in
theorem read_2 (b : Nat) (big : Bool) (a : Int) (s : ByteArray) (i : Nat) (wr : Bool) (n m : Int) (t : ByteArray) (w : World) (h : CdAt w b big a s i wr) (ha : 0 ≤ a) (ha2 : a ≤ 7) (hs : s.size ≤ 1000000) (hi : i ≤ s.size) :
    Calls Try.prog 23 #[.pointer (some ⟨b, 0, none⟩), actV 2 n m t] w fun e w' => e = .returned (toldV (numA s big a 2 i wr).n noB (numA s big a 2 i wr).e) ∧ RG w b big a s (numA s big a 2 i wr) w' := by
  have hc := h.kept (readW_grown w 2 n m t none) (by simp)
  have ME := Lib.hid (cshort_any b big a s i wr (readW w 2 n m t) hc ha ha2 hs hi)
  obtain ⟨R, hR⟩ : ∃ R, numA s big a 2 i wr = R := ⟨_, rfl⟩
  rw [hR] at ME ⊢
  clear hR hc
  have HL := Lib.hid h.lt
  clear h
  unfold actV toldV noB
  go_enter Try.func23, Try.ntmps23
  go_wp2_with fail
  refine (show Calls Try.prog 62 #[Value.pointer (some { block := b, off := 0 })] (readW w 2 n m t) _ from ME.out.mono ?_)
  rintro e w4 ⟨rfl, h4, g4⟩
  obtain ⟨r0, r1, r2, q0, q1, q2, t0, t1, t2, f0, f1, f2⟩ := ToldS.of HL.out g4
  have H4 := Lib.hid (show RG w b big a s R w4 from ⟨h4, (readW_grown w 2 n m t (some b)).trans g4⟩)
  clear h4 g4
  obtain ⟨B, hB⟩ : ∃ B, w.heap.size = B := ⟨_, rfl⟩
  have HB := Lib.hid hB
  rw [hB] at r0 r1 r2 q0 q1 q2 t0 t1 t2 f0 f1 f2
  rw [hB]
  clear hB
  go_wp2_with fail
  have hl := HL.out
  have hbb := HB.out
  refine bodyPost_ret (v := toldV R.n { data := #[] } R.e) (by simp [toldV, results, Try.results23, go_sem, *]) rfl ⟨rfl, ?_⟩
  exact (((((H4.out.far hl _ _ (by simp; omega)).far hl _ _ (by simp; omega)).far hl _ _ (by simp; omega)).far hl _ _ (by simp; omega)).far hl _ _ (by simp; omega))

set_option maxRecDepth 100000 in
set_option maxHeartbeats 1600000 in
theorem read_3 (b : Nat) (big : Bool) (a : Int) (s : ByteArray) (i : Nat) (wr : Bool) (n m : Int) (t : ByteArray) (w : World) (h : CdAt w b big a s i wr) (ha : 0 ≤ a) (ha2 : a ≤ 7) (hs : s.size ≤ 1000000) (hi : i ≤ s.size) :
    Calls Try.prog 23 #[.pointer (some ⟨b, 0, none⟩), actV 3 n m t] w fun e w' => e = .returned (toldV (numA s big a 4 i wr).n noB (numA s big a 4 i wr).e) ∧ RG w b big a s (numA s big a 4 i wr) w' := by
  have hc := h.kept (readW_grown w 3 n m t none) (by simp)
  have ME := Lib.hid (clong_any b big a s i wr (readW w 3 n m t) hc ha ha2 hs hi)
  obtain ⟨R, hR⟩ : ∃ R, numA s big a 4 i wr = R := ⟨_, rfl⟩
  rw [hR] at ME ⊢
  clear hR hc
  have HL := Lib.hid h.lt
  clear h
  unfold actV toldV noB
  go_enter Try.func23, Try.ntmps23
  go_wp2_with fail
  refine (show Calls Try.prog 63 #[Value.pointer (some { block := b, off := 0 })] (readW w 3 n m t) _ from ME.out.mono ?_)
  rintro e w4 ⟨rfl, h4, g4⟩
  obtain ⟨r0, r1, r2, q0, q1, q2, t0, t1, t2, f0, f1, f2⟩ := ToldS.of HL.out g4
  have H4 := Lib.hid (show RG w b big a s R w4 from ⟨h4, (readW_grown w 3 n m t (some b)).trans g4⟩)
  clear h4 g4
  obtain ⟨B, hB⟩ : ∃ B, w.heap.size = B := ⟨_, rfl⟩
  have HB := Lib.hid hB
  rw [hB] at r0 r1 r2 q0 q1 q2 t0 t1 t2 f0 f1 f2
  rw [hB]
  clear hB
  go_wp2_with fail
  have hl := HL.out
  have hbb := HB.out
  refine bodyPost_ret (v := toldV R.n { data := #[] } R.e) (by simp [toldV, results, Try.results23, go_sem, *]) rfl ⟨rfl, ?_⟩
  exact (((((H4.out.far hl _ _ (by simp; omega)).far hl _ _ (by simp; omega)).far hl _ _ (by simp; omega)).far hl _ _ (by simp; omega)).far hl _ _ (by simp; omega))

set_option maxRecDepth 100000 in
set_option maxHeartbeats 1600000 in
theorem read_4 (b : Nat) (big : Bool) (a : Int) (s : ByteArray) (i : Nat) (wr : Bool) (n m : Int) (t : ByteArray) (w : World) (h : CdAt w b big a s i wr) (ha : 0 ≤ a) (ha2 : a ≤ 7) (hs : s.size ≤ 1000000) (hi : i ≤ s.size) :
    Calls Try.prog 23 #[.pointer (some ⟨b, 0, none⟩), actV 4 n m t] w fun e w' => e = .returned (toldV (numA s big a 8 i wr).n noB (numA s big a 8 i wr).e) ∧ RG w b big a s (numA s big a 8 i wr) w' := by
  have hc := h.kept (readW_grown w 4 n m t none) (by simp)
  have ME := Lib.hid (chuge_any b big a s i wr (readW w 4 n m t) hc ha ha2 hs hi)
  obtain ⟨R, hR⟩ : ∃ R, numA s big a 8 i wr = R := ⟨_, rfl⟩
  rw [hR] at ME ⊢
  clear hR hc
  have HL := Lib.hid h.lt
  clear h
  unfold actV toldV noB
  go_enter Try.func23, Try.ntmps23
  go_wp2_with fail
  refine (show Calls Try.prog 64 #[Value.pointer (some { block := b, off := 0 })] (readW w 4 n m t) _ from ME.out.mono ?_)
  rintro e w4 ⟨rfl, h4, g4⟩
  obtain ⟨r0, r1, r2, q0, q1, q2, t0, t1, t2, f0, f1, f2⟩ := ToldS.of HL.out g4
  have H4 := Lib.hid (show RG w b big a s R w4 from ⟨h4, (readW_grown w 4 n m t (some b)).trans g4⟩)
  clear h4 g4
  obtain ⟨B, hB⟩ : ∃ B, w.heap.size = B := ⟨_, rfl⟩
  have HB := Lib.hid hB
  rw [hB] at r0 r1 r2 q0 q1 q2 t0 t1 t2 f0 f1 f2
  rw [hB]
  clear hB
  go_wp2_with fail
  have hl := HL.out
  have hbb := HB.out
  refine bodyPost_ret (v := toldV R.n { data := #[] } R.e) (by simp [toldV, results, Try.results23, go_sem, *]) rfl ⟨rfl, ?_⟩
  exact (((((H4.out.far hl _ _ (by simp; omega)).far hl _ _ (by simp; omega)).far hl _ _ (by simp; omega)).far hl _ _ (by simp; omega)).far hl _ _ (by simp; omega))

set_option maxRecDepth 100000 in
set_option maxHeartbeats 1600000 in
theorem read_5 (b : Nat) (big : Bool) (a : Int) (s : ByteArray) (i : Nat) (wr : Bool) (n m : Int) (t : ByteArray) (w : World) (h : CdAt w b big a s i wr) (ha : 0 ≤ a) (ha2 : a ≤ 7) (hs : s.size ≤ 1000000) (hi : i ≤ s.size) :
    Calls Try.prog 23 #[.pointer (some ⟨b, 0, none⟩), actV 5 n m t] w fun e w' => e = .returned (toldV 0 (textA s big a i wr).t (textA s big a i wr).e) ∧ RG w b big a s (textA s big a i wr) w' := by
  have hc := h.kept (readW_grown w 5 n m t none) (by simp)
  have ME := Lib.hid (ctext_any b big a s i wr (readW w 5 n m t) hc ha ha2 hs hi)
  obtain ⟨R, hR⟩ : ∃ R, textA s big a i wr = R := ⟨_, rfl⟩
  rw [hR] at ME ⊢
  clear hR hc
  have HL := Lib.hid h.lt
  clear h
  unfold actV toldV
  go_enter Try.func23, Try.ntmps23
  go_wp2_with fail
  refine (show Calls Try.prog 31 #[Value.pointer (some { block := b, off := 0 })] (readW w 5 n m t) _ from ME.out.mono ?_)
  rintro e w4 ⟨rfl, h4, g4⟩
  obtain ⟨r0, r1, r2, q0, q1, q2, t0, t1, t2, f0, f1, f2⟩ := ToldS.of HL.out g4
  have H4 := Lib.hid (show RG w b big a s R w4 from ⟨h4, (readW_grown w 5 n m t (some b)).trans g4⟩)
  clear h4 g4
  obtain ⟨B, hB⟩ : ∃ B, w.heap.size = B := ⟨_, rfl⟩
  have HB := Lib.hid hB
  rw [hB] at r0 r1 r2 q0 q1 q2 t0 t1 t2 f0 f1 f2
  rw [hB]
  clear hB
  go_wp2_with fail
  have hl := HL.out
  have hbb := HB.out
  refine bodyPost_ret (v := toldV 0 R.t R.e) (by simp [toldV, results, Try.results23, go_sem, *]) rfl ⟨rfl, ?_⟩
  exact (((((H4.out.far hl _ _ (by simp; omega)).far hl _ _ (by simp; omega)).far hl _ _ (by simp; omega)).far hl _ _ (by simp; omega)).far hl _ _ (by simp; omega))

set_option maxRecDepth 100000 in
set_option maxHeartbeats 1600000 in
theorem read_6 (b : Nat) (big : Bool) (a : Int) (s : ByteArray) (i : Nat) (wr : Bool) (n m : Int) (t : ByteArray) (w : World) (h : CdAt w b big a s i wr) (ha : 0 ≤ a) (ha2 : a ≤ 7) (hs : s.size ≤ 1000000) (hi : i ≤ s.size) :
    Calls Try.prog 23 #[.pointer (some ⟨b, 0, none⟩), actV 6 n m t] w fun e w' => e = .returned (toldV 0 (cntA s big a 0 i wr).t (cntA s big a 0 i wr).e) ∧ RG w b big a s (cntA s big a 0 i wr) w' := by
  have hc := h.kept (readW_grown w 6 n m t none) (by simp)
  have ME := Lib.hid (cbytes_any b big a s i wr (readW w 6 n m t) hc ha ha2 hs hi)
  obtain ⟨R, hR⟩ : ∃ R, cntA s big a 0 i wr = R := ⟨_, rfl⟩
  rw [hR] at ME ⊢
  clear hR hc
  have HL := Lib.hid h.lt
  clear h
  unfold actV toldV
  go_enter Try.func23, Try.ntmps23
  go_wp2_with fail
  refine (show Calls Try.prog 65 #[Value.pointer (some { block := b, off := 0 })] (readW w 6 n m t) _ from ME.out.mono ?_)
  rintro e w4 ⟨rfl, h4, g4⟩
  obtain ⟨r0, r1, r2, q0, q1, q2, t0, t1, t2, f0, f1, f2⟩ := ToldS.of HL.out g4
  have H4 := Lib.hid (show RG w b big a s R w4 from ⟨h4, (readW_grown w 6 n m t (some b)).trans g4⟩)
  clear h4 g4
  obtain ⟨B, hB⟩ : ∃ B, w.heap.size = B := ⟨_, rfl⟩
  have HB := Lib.hid hB
  rw [hB] at r0 r1 r2 q0 q1 q2 t0 t1 t2 f0 f1 f2
  rw [hB]
  clear hB
  go_wp2_with fail
  have hl := HL.out
  have hbb := HB.out
  refine bodyPost_ret (v := toldV 0 R.t R.e) (by simp [toldV, results, Try.results23, go_sem, *]) rfl ⟨rfl, ?_⟩
  exact (((((H4.out.far hl _ _ (by simp; omega)).far hl _ _ (by simp; omega)).far hl _ _ (by simp; omega)).far hl _ _ (by simp; omega)).far hl _ _ (by simp; omega))

set_option maxRecDepth 100000 in
set_option maxHeartbeats 1600000 in
theorem read_7 (b : Nat) (big : Bool) (a : Int) (s : ByteArray) (i : Nat) (wr : Bool) (n m : Int) (t : ByteArray) (w : World) (h : CdAt w b big a s i wr) (_ha : 0 ≤ a) (_ha2 : a ≤ 7) (hs : s.size ≤ 1000000) (hi : i ≤ s.size) :
    Calls Try.prog 23 #[.pointer (some ⟨b, 0, none⟩), actV 7 n m t] w fun e w' => e = .returned (toldV 0 (rawA s n i wr).t (rawA s n i wr).e) ∧ RG w b big a s (rawA s n i wr) w' := by
  have hc := h.kept (readW_grown w 7 n m t none) (by simp)
  have ME := Lib.hid (craw_any b big a n s i wr (readW w 7 n m t) hc hs hi)
  obtain ⟨R, hR⟩ : ∃ R, rawA s n i wr = R := ⟨_, rfl⟩
  rw [hR] at ME ⊢
  clear hR hc
  have HL := Lib.hid h.lt
  clear h
  unfold actV toldV
  go_enter Try.func23, Try.ntmps23
  go_wp2_with fail
  refine (show Calls Try.prog 66 #[Value.pointer (some { block := b, off := 0 }), Value.int IntKind.i64 n] (readW w 7 n m t) _ from ME.out.mono ?_)
  rintro e w4 ⟨rfl, h4, g4⟩
  obtain ⟨r0, r1, r2, q0, q1, q2, t0, t1, t2, f0, f1, f2⟩ := ToldS.of HL.out g4
  have H4 := Lib.hid (show RG w b big a s R w4 from ⟨h4, (readW_grown w 7 n m t (some b)).trans g4⟩)
  clear h4 g4
  obtain ⟨B, hB⟩ : ∃ B, w.heap.size = B := ⟨_, rfl⟩
  have HB := Lib.hid hB
  rw [hB] at r0 r1 r2 q0 q1 q2 t0 t1 t2 f0 f1 f2
  rw [hB]
  clear hB
  go_wp2_with fail
  have hl := HL.out
  have hbb := HB.out
  refine bodyPost_ret (v := toldV 0 R.t R.e) (by simp [toldV, results, Try.results23, go_sem, *]) rfl ⟨rfl, ?_⟩
  exact (((((H4.out.far hl _ _ (by simp; omega)).far hl _ _ (by simp; omega)).far hl _ _ (by simp; omega)).far hl _ _ (by simp; omega)).far hl _ _ (by simp; omega))

set_option maxRecDepth 100000 in
set_option maxHeartbeats 1600000 in
theorem read_align (b : Nat) (big : Bool) (a : Int) (s : ByteArray) (i : Nat) (wr : Bool) (n m : Int) (t : ByteArray) (w : World) (h : CdAt w b big a s i wr) (ha : 0 ≤ a) (ha2 : a ≤ 7) (hs : s.size ≤ 1000000) (hi : i ≤ s.size) (k : Int) (k0 : ¬ k = 0) (k1 : ¬ k = 1) (k2 : ¬ k = 2) (k3 : ¬ k = 3) (k4 : ¬ k = 4) (k5 : ¬ k = 5) (k6 : ¬ k = 6) (k7 : ¬ k = 7) :
    Calls Try.prog 23 #[.pointer (some ⟨b, 0, none⟩), actV k n m t] w fun e w' => e = .returned (toldV 0 noB (algA s a n i wr).e) ∧ RG w b big a s (algA s a n i wr) w' := by
  have hc := h.kept (readW_grown w k n m t none) (by simp)
  have ME := Lib.hid (cralign_any b big a n s i wr (readW w k n m t) hc ha ha2 hs hi)
  obtain ⟨R, hR⟩ : ∃ R, algA s a n i wr = R := ⟨_, rfl⟩
  rw [hR] at ME ⊢
  clear hR hc
  have HL := Lib.hid h.lt
  clear h
  unfold actV toldV noB
  go_enter Try.func23, Try.ntmps23
  go_wp2_with fail
  refine (show Calls Try.prog 32 #[Value.pointer (some { block := b, off := 0 }), Value.int IntKind.i64 n] (readW w k n m t) _ from ME.out.mono ?_)
  rintro e w4 ⟨rfl, h4, g4⟩
  obtain ⟨r0, r1, r2, q0, q1, q2, t0, t1, t2, f0, f1, f2⟩ := ToldS.of HL.out g4
  have H4 := Lib.hid (show RG w b big a s R w4 from ⟨h4, (readW_grown w k n m t (some b)).trans g4⟩)
  clear h4 g4
  obtain ⟨B, hB⟩ : ∃ B, w.heap.size = B := ⟨_, rfl⟩
  have HB := Lib.hid hB
  rw [hB] at r0 r1 r2 q0 q1 q2 t0 t1 t2 f0 f1 f2
  rw [hB]
  clear hB
  go_wp2_with fail
  have hl := HL.out
  have hbb := HB.out
  refine bodyPost_ret (v := toldV 0 { data := #[] } R.e) (by simp [toldV, results, Try.results23, go_sem, *]) rfl ⟨rfl, ?_⟩
  exact ((((H4.out.far hl _ _ (by simp; omega)).far hl _ _ (by simp; omega)).far hl _ _ (by simp; omega)).far hl _ _ (by simp; omega))

end Go.Proofs.Ytdklmeamhcgohaa
