/-
  PROVED HERE: what number of a reader of package cdr returns where the padding or the bytes that are left are wrong.
-/
import Derived.Test.YtdklmeamhcgohaaRe
import Derived.Test.YtdklmeamhcgohaaRq
namespace Go.Proofs.Ytdklmeamhcgohaa
open Go.RowKit

set_option maxRecDepth 100000 in
set_option maxHeartbeats 800000 in
theorem number_pad (b : Nat) (big : Bool) (a : Int) (s : ByteArray) (i k : Nat) (wr : Bool) (w : World) (h : CdAt w b big a s i wr) (ha : 0 ≤ a) (ha2 : a ≤ 7) (hs : s.size ≤ 1000000) (hi : i ≤ s.size)
    (hw : (algA s a k i wr).w = true) (he : (algA s a k i wr).e = errW (algA s a k i wr).w) :
    Calls Try.prog 98 #[.pointer (some ⟨b, 0, none⟩), .int .i64 k] w fun e w' => e = .returned (.tuple #[.int .u64 0, .int .i64 12]) ∧ CdAt w' b big a s (algA s a k i wr).i true ∧ w.grownBy w' (some b) := by
  have AL := Lib.hid (cralign_any b big a k s i wr _ (h.alloc (.cells #[.pointer (some ⟨b, 0, none⟩)] 39)) ha ha2 hs hi)
  rw [he, hw] at AL
  have HA := Lib.hid (World.grownBy_alloc w (.cells #[.pointer (some ⟨b, 0, none⟩)] 39) (some b))
  obtain ⟨j, hj⟩ : ∃ j, (algA s a k i wr).i = j := ⟨_, rfl⟩
  rw [hj] at AL ⊢
  clear h hw he hj
  go_enter Try.func98, Try.ntmps98
  go_wp2_with (go_at_call 32; refine AL.out.mono ?_; rintro e w1 ⟨rfl, h1, g1⟩; dsimp only [errW, if_true]; have H1 := Lib.hid h1; have G1 := Lib.hid g1; clear h1 g1)
  go_ret2
  exact ⟨rfl, H1.out, HA.out.trans G1.out⟩

/-- What reads of a boxed reader's bytes ask. -/
structure NbS (B b : Nat) (s : ByteArray) (W : World) : Prop where
  x : W.cell? ⟨B, 0, none⟩ = some (.pointer (some ⟨b, 0, none⟩))
  s : W.cell? ⟨b, 2, none⟩ = some (.string s)

set_option maxRecDepth 100000 in
set_option maxHeartbeats 1600000 in
theorem number_end (b : Nat) (big : Bool) (a : Int) (s : ByteArray) (i k : Nat) (w : World) (h : CdAt w b big a s i false) (ha : 0 ≤ a) (ha2 : a ≤ 7) (hs : s.size ≤ 1000000) (hi : i ≤ s.size) (hk : k ≤ 8)
    (hz : szB (k : Int) = true) (hf : firstBad (bytesOf s) i (padK' a i k) = none) (hend : s.size < i + padK' a i k + k) :
    Calls Try.prog 98 #[.pointer (some ⟨b, 0, none⟩), .int .i64 k] w fun e w' => e = .returned (.tuple #[.int .u64 0, .int .i64 12]) ∧ CdAt w' b big a s s.size true ∧ w.grownBy w' (some b) := by
  have AL := Lib.hid (ralign_none b big a s i k _ (h.alloc (.cells #[.pointer (some ⟨b, 0, none⟩)] 39)) ha ha2 hs hi hz hf)
  have hb1 := firstBad_none _ _ _ (by rw [bytesOf_length]; exact hi) hf
  rw [bytesOf_length] at hb1
  have HA := Lib.hid (World.grownBy_alloc w (.cells #[.pointer (some ⟨b, 0, none⟩)] 39) (some b))
  have BX : Boxed (w.alloc (.cells #[.pointer (some ⟨b, 0, none⟩)] 39)) w.heap.size 39 (.pointer (some ⟨b, 0, none⟩)) := Boxed.new w 39 _
  have hne : w.heap.size ≠ b := by have := h.lt; omega
  obtain ⟨q, hq⟩ : ∃ q, i + padK' a i k = q := ⟨_, rfl⟩
  rw [hq] at AL hb1 hend
  have HB := Lib.hid BX
  have HN := Lib.hid hne
  clear h hz hf hq BX hne
  go_enter Try.func98, Try.ntmps98
  go_wp2_with (go_at_call 32; refine AL.out.mono ?_; rintro e w1 ⟨rfl, h1, g1⟩; have H1 := Lib.hid h1; have G1 := Lib.hid g1; have cb := (HB.out.kept g1 (by simp; exact HN.out)).cell; have c2 := h1.c2; have c3 := h1.c3; clear h1 g1)
  go_quiet (fail)
  go_wp2_with fail
  have hST : ∀ W, CdAt W b big a s q false → Calls Try.prog 78 #[.pointer (some ⟨b, 0, none⟩), .int .i64 s.size] W fun e w' => e = .returned (.int .i64 12) ∧ CdAt w' b big a s s.size true ∧ W.grownBy w' (some b) := fun W hW => stop_any b big a s q false s.size W hW
  have ST := Lib.hid hST
  clear hST
  have hcd : CdAt (w1.drewN nq).drew b big a s q false := H1.out
  have hgd : w.grownBy (w1.drewN nq).drew (some b) := (HA.out.trans G1.out).trans (show w1.grownBy (w1.drewN nq).drew (some b) from ⟨rfl, rfl, rfl, Nat.le_refl _, fun _ _ _ => rfl⟩)
  have hS : NbS w.heap.size b s (w1.drewN nq).drew := ⟨cb, c2⟩
  generalize w1.drewN nq = w2 at hcd hgd hS
  clear cb c2 c3
  refine wp_region_C (S := NbS w.heap.size b s) (c := 6) (by kernel_rfl) ?_
  refine takeC 5 (i := 0) (d := 27) (v := .pointer (some ⟨b, 0, none⟩)) rfl rfl (by kernel_rfl) (by kernel_rfl) (by kernel_rfl) (by decide) (by kernel_rfl) (fun _ _ _ h => h) (by rfl) (by (rintro w ⟨p0, p1⟩; go_simp)) hS ?_
  simp only [List.setIfInBounds_toArray, List.set_cons_zero, List.set_cons_succ]
  refine takeC 5 (i := 1) (d := 28) (v := .pointer (some ⟨b, 0, none⟩)) rfl rfl (by kernel_rfl) (by kernel_rfl) (by kernel_rfl) (by decide) (by kernel_rfl) (fun _ _ _ h => h) (by rfl) (by (rintro w ⟨p0, p1⟩; go_simp)) hS ?_
  simp only [List.setIfInBounds_toArray, List.set_cons_zero, List.set_cons_succ]
  refine takeC 5 (i := 2) (d := 29) (v := .pointer (some ⟨b, 0, none⟩)) rfl rfl (by kernel_rfl) (by kernel_rfl) (by kernel_rfl) (by decide) (by kernel_rfl) (fun _ _ _ h => h) (by rfl) (by (rintro w ⟨p0, p1⟩; go_simp)) hS ?_
  simp only [List.setIfInBounds_toArray, List.set_cons_zero, List.set_cons_succ]
  refine takeC 5 (i := 3) (d := 30) (v := .pointer (some ⟨b, 2, none⟩)) rfl rfl (by kernel_rfl) (by kernel_rfl) (by kernel_rfl) (by decide) (by kernel_rfl) (fun _ _ _ h => h) (by rfl) (by (rintro w ⟨p0, p1⟩; go_simp)) hS ?_
  simp only [List.setIfInBounds_toArray, List.set_cons_zero, List.set_cons_succ]
  refine takeC 5 (i := 4) (d := 31) (v := .string s) rfl rfl (by kernel_rfl) (by kernel_rfl) (by kernel_rfl) (by decide) (by kernel_rfl) (fun _ _ _ h => h) (by rfl) (by (rintro w ⟨p0, p1⟩; go_simp)) hS ?_
  simp only [List.setIfInBounds_toArray, List.set_cons_zero, List.set_cons_succ]
  refine takeC 5 (i := 5) (d := 32) (v := .int .i64 s.size) rfl rfl (by kernel_rfl) (by kernel_rfl) (by kernel_rfl) (by decide) (by kernel_rfl) (fun _ _ _ h => h) (by rfl) (by (rintro w ⟨p0, p1⟩; go_simp)) hS ?_
  simp only [List.setIfInBounds_toArray, List.set_cons_zero, List.set_cons_succ]
  refine stepC (by kernel_rfl) rfl (fun K hK => ?_)
  rw [if_pos (by rfl)]
  go_simp
  refine (ST.out _ hcd).mono ?_
  rintro e w3 ⟨rfl, h3, g3⟩
  refine hK.out _ _ ?_
  clear hK K
  refine takeA (i := 7) (d := 4) (v := .int .u64 0) rfl rfl (by kernel_rfl) (by kernel_rfl) (by kernel_rfl) (by decide) (fun _ _ _ h => h) (by rfl) (by (intro w; go_simp)) (.inl (by kernel_rfl)) ?_
  simp only [List.setIfInBounds_toArray, List.set_cons_zero, List.set_cons_succ]
  refine takeA (i := 8) (d := 5) (v := .int .i64 12) rfl rfl (by kernel_rfl) (by kernel_rfl) (by kernel_rfl) (by decide) (fun _ _ _ h => h) (by rfl) (by (intro w; go_simp)) (.inl (by kernel_rfl)) ?_
  simp only [List.setIfInBounds_toArray, List.set_cons_zero, List.set_cons_succ]
  refine doneC (by kernel_rfl) ?_ _
  have H3 := Lib.hid h3
  have G3 := Lib.hid (hgd.trans g3)
  clear h3 g3 hgd hcd hS
  go_wp2_with fail
  go_ret2
  exact ⟨rfl, H3.out, G3.out⟩

end Go.Proofs.Ytdklmeamhcgohaa
