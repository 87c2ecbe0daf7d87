/- The contract of (*cdr.Writer).add: the padding, then a number's bytes in the writer's order. -/
import Derived.Test.YtdklmeamhcgohaaC
import Derived.Test.YtdklmeamhcgohaaR
namespace Go.Proofs.Ytdklmeamhcgohaa
open Go.RowKit Go.Shelf
attribute [local go_sem] Oper.semAt_some

/-- The byte of a number behind a shift. -/
def bt (n : Int) (x : Sh) : UInt8 := UInt8.ofNat ((n / 2 ^ x.1.toNat) % 256).toNat
/-- The bytes of a number of s bytes, in an order. -/
def numB (n : Int) (big : Bool) (s : Nat) : List UInt8 := (shs big s s).map (bt n)

theorem bt_val (n : Int) (x : Sh) : (((bt n x).toNat : Nat) : Int) = (n / 2 ^ x.1.toNat) % 256 := by
  unfold bt
  have h1 : 0 ≤ (n / 2 ^ x.1.toNat) % 256 := Int.emod_nonneg _ (by omega)
  have h2 : (n / 2 ^ x.1.toNat) % 256 < 256 := Int.emod_lt_of_pos _ (by omega)
  rw [UInt8.toNat_ofNat_of_lt' (by simp [UInt8.size]; omega)]
  omega

theorem boxed_wrote {W W' : World} {B : Nat} {t : TypeId} {v : Value} {b : Nat} {s s' : Value} (h : Boxed W B t v) (hw : Wrote W W' b s s') (h1 : B ≠ b) (h2 : some B ≠ s.ownBlock) : Boxed W' B t v :=
  (hw.block B h.lt h1 h2).trans h

theorem Wrote.grown {A B C : World} {b : Nat} {s t : Value} {row : Option Nat} (h : Wrote A B b s t) (hg : B.grownBy C row) (hr : ∀ r, row = some r → A.heap.size ≤ r) : Wrote A C b s t :=
  ⟨hg.os.trans h.os, hg.tape.trans h.tape, hg.output.trans h.output, Nat.le_trans h.size hg.size, fun k hk hb hs => (hg.block k (Nat.lt_of_lt_of_le hk h.size) (fun e => by have := hr k e.symm; omega)).trans (h.block k hk hb hs), h.own⟩

theorem Holds.kept {W W' : World} {row : Option Nat} {b : Nat} {big : Bool} {a : Int} {sv : Value} {out : List UInt8} (h : Holds W b big a sv out) (hg : W.grownBy W' row) (hr : ∀ r, row = some r → ∃ o, W.heap[r]? = some o ∧ o.isCells = false) : Holds W' b big a sv out := by
  refine ⟨h.1.kept hg (fun e => ?_), h.2.kept hg ?_⟩
  · obtain ⟨o, ho, hc⟩ := hr b e.symm
    rw [show W.heap[b]? = _ from h.1] at ho; cases ho; cases hc
  · rcases h.2.2 with ⟨rfl, _⟩ | ⟨g, cap, cur, rfl, _, hgb, _⟩
    · exact .inl rfl
    · refine .inr fun e => ?_
      obtain ⟨o, ho, hc⟩ := hr g (by simpa [Value.ownBlock] using e.symm)
      rw [hgb] at ho; cases ho; cases hc

theorem boxed_kept {W W' : World} {row : Option Nat} {B : Nat} {t : TypeId} {v : Value} (h : Boxed W B t v) (hg : W.grownBy W' row) (hr : ∀ r, row = some r → ∃ o, W.heap[r]? = some o ∧ o.isCells = false) : Boxed W' B t v :=
  h.kept hg fun e => by
    obtain ⟨o, ho, hc⟩ := hr B e.symm
    rw [show W.heap[B]? = _ from h] at ho; cases ho; cases hc

/-- BETWEEN TWO ROUNDS: the writer holds what was there and the bytes so far; the two boxes are as they were. -/
def AddI (w2 : World) (b : Nat) (big : Bool) (a : Int) (sv1 : Value) (out1 : List UInt8) (n : Int) (B : Nat) (pre : List Sh) (W : World) : Prop :=
  (∃ sv', Holds W b big a sv' (out1 ++ pre.map (bt n)) ∧ Wrote w2 W b sv1 sv') ∧ Boxed W B 25 (.pointer (some ⟨b, 0, none⟩)) ∧ Boxed W (B + 1) 3 (.int .i64 n)

theorem AddI.own (w2 : World) (b : Nat) (big : Bool) (a : Int) (sv1 : Value) (out1 : List UInt8) (n : Int) (B : Nat) : OwnFrom w2.heap.size (AddI w2 b big a sv1 out1 n B) := by
  rintro s X Y row ⟨⟨sv', hh, hw⟩, h1, h2⟩ hg hrow
  have hr : ∀ r, row = some r → ∃ o, X.heap[r]? = some o ∧ o.isCells = false := fun r e => (hrow r e).2
  exact ⟨⟨sv', hh.kept hg hr, hw.grown hg (fun r e => (hrow r e).1)⟩, boxed_kept h1 hg hr, boxed_kept h2 hg hr⟩

/-- What holds while the body's statement is carried out: the two boxes. -/
def AddS (B b : Nat) (n : Int) (W : World) : Prop := W.cell? ⟨B, 0, none⟩ = some (.pointer (some ⟨b, 0, none⟩)) ∧ W.cell? ⟨B + 1, 0, none⟩ = some (.int .i64 n)

theorem keepsFrom_wrote {W W' : World} {b : Nat} {big : Bool} {a : Int} {sv sv' : Value} {out : List UInt8} (B : Nat) (h : Holds W b big a sv out) (hw : Wrote W W' b sv sv') : KeepsFrom B W W' := by
  refine ⟨hw.size, fun k o _ hk ho => (hw.block k (Array.getElem?_eq_some_iff.1 hk).1 (fun e => ?_) (fun e => ?_)).trans hk⟩
  · subst e
    rw [show W.heap[k]? = _ from h.1] at hk; cases hk; cases ho
  · rcases h.2.2 with ⟨rfl, _⟩ | ⟨g, cap, cur, rfl, _, hgb, _⟩
    · simp [Value.ownBlock] at e
    · obtain rfl : k = g := by simpa [Value.ownBlock] using e
      rw [hgb] at hk; cases hk; cases ho

theorem Holds.own_lt {W : World} {b : Nat} {big : Bool} {a : Int} {sv : Value} {out : List UInt8} (h : Holds W b big a sv out) {g : Nat} (hg : sv.ownBlock = some g) : g < W.heap.size := (h.2.lt g hg).2

set_option maxRecDepth 100000 in
set_option maxHeartbeats 2000000 in
theorem add_any (b : Nat) (big : Bool) (a n : Int) (s : Nat) (sv : Value) (out : List UInt8) (w : World) (h : Holds w b big a sv out) (ha : 0 ≤ a) (ha2 : a ≤ 7) (hL : out.length ≤ 100000000)
    (hs : 1 ≤ s) (hs2 : s ≤ 8) (p : Nat) (hp : padN (a + out.length) s = p) :
    Calls Try.prog 92 #[.pointer (some ⟨b, 0, none⟩), .int .i64 s, .int .i64 n] w fun e w' => e = .returned (.tuple #[]) ∧ ∃ sv', Holds w' b big a sv' (out ++ List.replicate p 0 ++ numB n big s) ∧ Wrote w w' b sv sv' := by
  obtain ⟨i0, hi, hz0, hz1, hz2⟩ := info_parts Try.info5
  have hbl := h.1.lt
  have hpb := padN_bd (a + out.length) s (by omega)
  have hp8 : p < 8 := by omega
  have HP := Lib.hid hp
  clear hp hpb
  obtain ⟨w0, hw0⟩ : ∃ w0, (w.alloc (.cells #[.pointer (some ⟨b, 0, none⟩)] 25)).alloc (.cells #[.int .i64 n] 3) = w0 := ⟨_, rfl⟩
  have hh0 : Holds w0 b big a sv out := hw0 ▸ (h.alloc _).alloc _
  have hs0 : w0.heap.size = w.heap.size + 2 := by rw [← hw0]; simp
  have bx : Boxed w0 w.heap.size 25 (.pointer (some ⟨b, 0, none⟩)) := hw0 ▸ (Boxed.new w 25 _).alloc _
  have bn : Boxed w0 (w.heap.size + 1) 3 (.int .i64 n) := by rw [← hw0]; have := Boxed.new (w.alloc (.cells #[.pointer (some ⟨b, 0, none⟩)] 25)) 3 (.int .i64 n); rwa [World.size_alloc] at this
  have hw00 : Wrote w w0 b sv sv := hw0 ▸ ((Wrote.refl w b sv).alloc _).alloc _
  have hown : ∀ g, sv.ownBlock = some g → g < w.heap.size := fun g hg => h.own_lt hg
  have Hs0 := Lib.hid hs0
  have Hw0 := Lib.hid hw0
  clear hw0 hs0
  refine (callsIn_wide (n := 9)).1 ?_
  refine callsIn_of_wp_marks Try.func92 rfl trivial ?_ rfl
  simp only [Try.ntmps92, List.size_toArray, List.length_cons, List.length_nil, Nat.reduceAdd, Nat.reduceSub, Array.replicate_succ, Array.replicate_zero, List.push_toArray, List.append_toArray, List.nil_append, List.cons_append]
  gi_wp2_with fail
  rw [Hw0.out]
  refine ⟨trivial, ?_⟩
  refine (callsIn_wide.2 (pad_any b big a s sv out w0 hh0 ha ha2 hL (by omega) (by omega) p HP.out)).mono ?_
  rintro e w1 ⟨rfl, sv1, hh1, hw1⟩
  have bx1 : Boxed w1 w.heap.size 25 (.pointer (some ⟨b, 0, none⟩)) := boxed_wrote bx hw1 (by omega) (fun e => by have := hown _ e.symm; omega)
  have bn1 : Boxed w1 (w.heap.size + 1) 3 (.int .i64 n) := boxed_wrote bn hw1 (by omega) (fun e => by have := hown _ e.symm; omega)
  have cb := bx1.cell
  have c0 := hh1.1.c0
  have c1 := hh1.1.c1
  gi_wp2_with (refine ⟨trivial, ?_⟩; gi_at_call 59; refine (shifts_in Fence.wide _ trivial rfl big a s _).mono ?_; rintro e w2 ⟨rfl, rfl⟩)
  obtain ⟨w2, hw2⟩ : ∃ w2, (w1.alloc (.cells #[.bool big, .int .i64 a] 61)).alloc (.cells #[.int .i64 s] 3) = w2 := ⟨_, rfl⟩
  have hB2 : w2.heap[w1.heap.size]? = some (.cells #[.bool big, .int .i64 a] 61 (0, 0)) := by rw [← hw2]; exact (Below.heap_alloc _ _ _ (by simp)).trans (heap_alloc_new w1 _)
  have hB1 : w2.heap[w1.heap.size + 1]? = some (.cells #[.int .i64 s] 3 (0, 0)) := by
    rw [← hw2]; have := heap_alloc_new (w1.alloc (.cells #[.bool big, .int .i64 a] 61)) (.cells #[.int .i64 s] 3); rwa [World.size_alloc] at this
  have hh2 : Holds w2 b big a sv1 (out ++ List.replicate p 0) := hw2 ▸ (hh1.alloc _).alloc _
  have bx2 : Boxed w2 w.heap.size 25 (.pointer (some ⟨b, 0, none⟩)) := hw2 ▸ (bx1.alloc _).alloc _
  have bn2 : Boxed w2 (w.heap.size + 1) 3 (.int .i64 n) := hw2 ▸ (bn1.alloc _).alloc _
  have hs2' : w2.heap.size = w1.heap.size + 2 := by rw [← hw2]; simp
  have hw12 : Wrote w1 w2 b sv1 sv1 := hw2 ▸ ((Wrote.refl w1 b sv1).alloc _).alloc _
  have hlt1 : w.heap.size + 1 < w1.heap.size := bn1.lt
  have hown1 : ∀ g, sv1.ownBlock = some g → g < w1.heap.size := fun g hg => hh1.own_lt hg
  rw [hw2]
  have Hs2 := Lib.hid hs2'
  clear hs2' hw2 cb c0 c1
  refine wpIn_rangeFunc_ownG rfl (by omega) (gf := 97) (lb := #[.pointer (some ⟨w1.heap.size + 1, 0, none⟩), .pointer (some ⟨w1.heap.size, 0, none⟩)]) rfl trivial (enters_of Try.func97 (by kernel_rfl) rfl)
    (shifts_stops Fence.wide (9 - 1) trivial rfl (by omega) (w1.heap.size + 1) w1.heap.size big a s hs2 w2 hB1 hB2)
    (fun h k => ⟨k.1.trans h.1, k.2.trans h.2⟩)
    (fun W l o o' hl _ _ _ => ⟨World.putObj_heap_other (by have := Hs2.out; omega), World.putObj_heap_other (by have := Hs2.out; omega)⟩)
    (Below.refl _ _) (fun _ => rfl)
    (AddI w2 b big a sv1 (out ++ List.replicate p 0) n w.heap.size)
    (fun _ _ _ => False)
    (AddI.own _ _ _ _ _ _ _ _)
    (fun _ _ _ _ _ hs _ _ => hs)
    ⟨⟨sv1, by simpa using hh2, Wrote.refl _ _ _⟩, bx2, bn2⟩
    (fun x => { tmps := #[.pointer (some ⟨b, 0, none⟩), .int .i64 s, .int .i64 n, .pointer (some ⟨w.heap.size, 0, none⟩), undef, .pointer (some ⟨w.heap.size + 1, 0, none⟩), .int .i64 x.1, .pointer (some ⟨b, 0, none⟩), .int .i64 s, .tuple #[],
      .pointer (some ⟨b, 0, none⟩), .pointer (some ⟨b, 0, none⟩), .pointer (some ⟨b, 0, none⟩), .agg #[.bool big, .int .i64 a], .int .i64 s,
      .func (.func 97) #[] #[.pointer (some ⟨w1.heap.size + 1, 0, none⟩), .pointer (some ⟨w1.heap.size, 0, none⟩)], .int .i64 x.1, undef, undef, undef, undef, undef, undef, undef, undef, undef, undef, undef, undef, undef], defers := [] }) ?assign ?body ?done ?stop
  case assign =>
    intro l x W K hK
    gi_wp2
    exact hK
  case body =>
    rintro l pre x W ⟨⟨sv2, hh, hwr⟩, hbx, hbn⟩ hlt
    have hpl : pre.length < 8 := by rw [shs_length] at hlt; omega
    obtain ⟨o1, ho1⟩ : ∃ o1, out ++ List.replicate p (0 : UInt8) ++ pre.map (bt n) = o1 := ⟨_, rfl⟩
    rw [ho1] at hh
    have hol : o1.length ≤ 200000000 := by rw [← ho1]; simp; omega
    have HO := Lib.hid ho1
    clear ho1
    obtain ⟨ao2, cap2, rfl⟩ := hh.form
    have cb := hbx.cell
    have cn := hbn.cell
    have c2 := hh.1.c2
    refine wpIn_block ?_
    have hx0 : 0 ≤ x.1 := x.2.1
    have hx1 : x.1 < 64 := x.2.2
    refine wpIn_region_round (S := AddS w.heap.size b n) (by kernel_rfl) (by kernel_rfl) (fun ⟨_, _, h⟩ => h) ?_
    have hS : AddS w.heap.size b n W.drew := ⟨cb, cn⟩
    refine takeT (i := 0) (d := 17) (v := .pointer (some ⟨b, 0, none⟩)) rfl rfl (by kernel_rfl) (by kernel_rfl) (by kernel_rfl) (fun _ _ _ h => h) (by rfl) (by (rintro w ⟨q1, q2⟩; go_simp)) hS ?_
    simp only [List.setIfInBounds_toArray, List.set_cons_zero, List.set_cons_succ]
    refine takeT (i := 1) (d := 18) (v := .pointer (some ⟨b, 0, none⟩)) rfl rfl (by kernel_rfl) (by kernel_rfl) (by kernel_rfl) (fun _ _ _ h => h) (by rfl) (by (rintro w ⟨q1, q2⟩; go_simp)) hS ?_
    simp only [List.setIfInBounds_toArray, List.set_cons_zero, List.set_cons_succ]
    refine takeT (i := 2) (d := 19) (v := .pointer (some ⟨b, 0, none⟩)) rfl rfl (by kernel_rfl) (by kernel_rfl) (by kernel_rfl) (fun _ _ _ h => h) (by rfl) (by (rintro w ⟨q1, q2⟩; go_simp)) hS ?_
    simp only [List.setIfInBounds_toArray, List.set_cons_zero, List.set_cons_succ]
    refine takeT (i := 3) (d := 20) (v := .pointer (some ⟨b, 2, none⟩)) rfl rfl (by kernel_rfl) (by kernel_rfl) (by kernel_rfl) (fun _ _ _ h => h) (by rfl) (by (rintro w ⟨q1, q2⟩; go_simp)) hS ?_
    simp only [List.setIfInBounds_toArray, List.set_cons_zero, List.set_cons_succ]
    refine takeT (i := 5) (d := 22) (v := .int .i64 n) rfl rfl (by kernel_rfl) (by kernel_rfl) (by kernel_rfl) (fun _ _ _ h => h) (by rfl) (by (rintro w ⟨q1, q2⟩; go_simp)) hS ?_
    simp only [List.setIfInBounds_toArray, List.set_cons_zero, List.set_cons_succ]
    refine takeT (i := 6) (d := 23) (v := .int .i64 x.1) rfl rfl (by kernel_rfl) (by kernel_rfl) (by kernel_rfl) (fun _ _ _ h => h) (by rfl) (by (rintro w ⟨q1, q2⟩; go_simp)) hS ?_
    simp only [List.setIfInBounds_toArray, List.set_cons_zero, List.set_cons_succ]
    refine takeT (i := 7) (d := 24) (v := .int .i64 (n / 2 ^ x.1.toNat)) rfl rfl (by kernel_rfl) (by kernel_rfl) (by kernel_rfl) (fun _ _ _ h => h) (by rfl) (by (rintro w ⟨q1, q2⟩; go_simp)) hS ?_
    simp only [List.setIfInBounds_toArray, List.set_cons_zero, List.set_cons_succ]
    refine takeT (i := 8) (d := 25) (v := .int .u8 ((bt n x).toNat : Int)) rfl rfl (by kernel_rfl) (by kernel_rfl) (by kernel_rfl) (fun _ _ _ h => h) (by rfl) (by (rintro w ⟨q1, q2⟩; go_simp; rw [bt_val]; rfl)) hS ?_
    simp only [List.setIfInBounds_toArray, List.set_cons_zero, List.set_cons_succ]
    have hS1 : AddS w.heap.size b n (W.alloc (.cells #[.int .u8 ((bt n x).toNat : Int)] 5)).drew := ⟨(hbx.alloc _).cell, (hbn.alloc _).cell⟩
    have hal : W.grownBy (W.alloc (.cells #[.int .u8 ((bt n x).toNat : Int)] 5)).drew none := ⟨rfl, rfl, rfl, by simp, fun k hk _ => Below.heap_alloc W _ k hk⟩
    have hx5 : Boxed (W.alloc (.cells #[.int .u8 ((bt n x).toNat : Int)] 5)).drew w.heap.size 25 (.pointer (some ⟨b, 0, none⟩)) := hbx.kept hal (by simp)
    have hn5 : Boxed (W.alloc (.cells #[.int .u8 ((bt n x).toNat : Int)] 5)).drew (w.heap.size + 1) 3 (.int .i64 n) := hbn.kept hal (by simp)
    have hr5 : (W.alloc (.cells #[.int .u8 ((bt n x).toNat : Int)] 5)).drew.ownsRow 0 5 1 (.slice ao2 o1.length cap2) o1.length (bcells o1) := hh.2.alloc _
    have c2a := (hh.1.alloc (.cells #[.int .u8 ((bt n x).toNat : Int)] 5)).c2
    refine wpAnyH_ready (rs := [4, 9]) (by kernel_rfl) (by simp) ?_
    refine AllReadyH.cons rfl (fun K hK => ?_) (AllReadyH.cons rfl (fun K hK => ?_) AllReadyH.nil)
    · rw [if_pos (by rfl)]
      go_simp
      refine hK.out _ _ hS (fun _ => ?_)
      clear hK K
      refine wpAnyH_ready (rs := [9]) (by kernel_rfl) (by simp) ?_
      refine AllReadyH.cons rfl (fun K hK => ?_) AllReadyH.nil
      rw [if_pos (by rfl)]
      go_simp
      refine hK.out _ _ hS1 (fun _ => ?_)
      clear hK K
      refine wpAnyH_ready (rs := [10]) (by kernel_rfl) (by simp) ?_
      refine AllReadyH.cons rfl (fun K hK => ?_) AllReadyH.nil
      rw [if_pos (by rfl)]
      refine wp_append_at (.tmp 21) (.tmp 26) 54 rfl 5 i0 (.int .u8 0) 1 1 Try.underlying54 hi hz0 hz1 hz2 rfl (by decide) _ _ _ rfl hr5 ⟨W.heap.size, 0, none⟩ 1 1 [.int .u8 ((bt n x).toNat : Int)] rfl rfl (cell_one_new _ _ _) (by simp [Value.oneCell']) (by unfold maxLen; omega) (by omega) ?_
      intro v' w3 hown' hgrow0 hat
      have hgrow : (W.alloc (.cells #[.int .u8 ((bt n x).toNat : Int)] 5)).drew.grownBy w3 (Value.slice ao2 o1.length cap2).ownBlock := hgrow0
      clear hgrow0
      obtain ⟨g', cap', rfl⟩ := ownsRow_succ' hown'
      obtain ⟨hv1, hv2, hr2, hw2'⟩ := WAt.appended hh.1 hh.2 hal hown' hgrow hat
      have hx3 : Boxed w3 w.heap.size 25 (.pointer (some ⟨b, 0, none⟩)) := hx5.kept hgrow (hx5.not_row (by decide) hr5)
      have hn3 : Boxed w3 (w.heap.size + 1) 3 (.int .i64 n) := hn5.kept hgrow (hn5.not_row (by decide) hr5)
      have hS3 : AddS w.heap.size b n w3 := ⟨hx3.cell, hn3.cell⟩
      simp only [Act.put, List.setIfInBounds_toArray]
      refine hK.out _ _ hS3 (fun _ => ?_)
      clear hK K
      refine takeT (i := 11) (d := 28) (v := .pointer (some ⟨b, 0, none⟩)) rfl rfl (by kernel_rfl) (by kernel_rfl) (by kernel_rfl) (fun _ _ _ h => h) (by rfl) (by (rintro w ⟨q1, q2⟩; go_simp)) hS3 ?_
      simp only [List.setIfInBounds_toArray, List.set_cons_zero, List.set_cons_succ]
      refine takeT (i := 12) (d := 29) (v := .pointer (some ⟨b, 2, none⟩)) rfl rfl (by kernel_rfl) (by kernel_rfl) (by kernel_rfl) (fun _ _ _ h => h) (by rfl) (by (rintro w ⟨q1, q2⟩; go_simp)) hS3 ?_
      simp only [List.setIfInBounds_toArray, List.set_cons_zero, List.set_cons_succ]
      refine wpAnyH_ready (rs := [13]) (by kernel_rfl) (by simp) ?_
      refine AllReadyH.cons rfl (fun K hK => ?_) AllReadyH.nil
      rw [if_pos (by rfl)]
      have hc3 := hv1.c2
      have hf3 := hv1.f2
      go_simp
      have hx4 : Boxed (w3.setCell ⟨b, 2, none⟩ (.slice (some ⟨g', 0, none⟩) (o1.length + 1) cap')) w.heap.size 25 (.pointer (some ⟨b, 0, none⟩)) := hx3.kept (grownBy_setCell2 _ _ _) (by simp; omega)
      have hn4 : Boxed (w3.setCell ⟨b, 2, none⟩ (.slice (some ⟨g', 0, none⟩) (o1.length + 1) cap')) (w.heap.size + 1) 3 (.int .i64 n) := hn3.kept (grownBy_setCell2 _ _ _) (by simp; omega)
      refine hK.out _ _ ⟨hx4.cell, hn4.cell⟩ (fun _ => ?_)
      clear hK K
      refine wpAnyH_done (by kernel_rfl) ?_ _
      refine ⟨keepsFrom_wrote _ hh hw2', ⟨?_, ?_⟩, ⟨_, ⟨hv2, ?_⟩, hwr.trans hw2'⟩, hx4, hn4⟩
      · exact hw2'.block _ (by have := hwr.size; have := Hs2.out; omega) (by omega) (fun e => by have h9 := Hs2.out; rcases hwr.own _ e.symm with e1 | e1; { have := hown1 _ e1; omega }; { omega })
      · exact hw2'.block _ (by have := hwr.size; have := Hs2.out; omega) (by omega) (fun e => by have h9 := Hs2.out; rcases hwr.own _ e.symm with e1 | e1; { have := hown1 _ e1; omega }; { omega })
      · rw [List.map_append, ← List.append_assoc, HO.out, List.map_cons, List.map_nil, bcells_append, List.length_append]
        exact hr2
    · rw [if_pos (by rfl)]
      go_simp
      refine hK.out _ _ hS1 (fun _ => ?_)
      clear hK K
      refine wpAnyH_ready (rs := [4]) (by kernel_rfl) (by simp) ?_
      refine AllReadyH.cons rfl (fun K hK => ?_) AllReadyH.nil
      rw [if_pos (by rfl)]
      go_simp
      refine hK.out _ _ hS1 (fun _ => ?_)
      clear hK K
      refine wpAnyH_ready (rs := [10]) (by kernel_rfl) (by simp) ?_
      refine AllReadyH.cons rfl (fun K hK => ?_) AllReadyH.nil
      rw [if_pos (by rfl)]
      refine wp_append_at (.tmp 21) (.tmp 26) 54 rfl 5 i0 (.int .u8 0) 1 1 Try.underlying54 hi hz0 hz1 hz2 rfl (by decide) _ _ _ rfl hr5 ⟨W.heap.size, 0, none⟩ 1 1 [.int .u8 ((bt n x).toNat : Int)] rfl rfl (cell_one_new _ _ _) (by simp [Value.oneCell']) (by unfold maxLen; omega) (by omega) ?_
      intro v' w3 hown' hgrow0 hat
      have hgrow : (W.alloc (.cells #[.int .u8 ((bt n x).toNat : Int)] 5)).drew.grownBy w3 (Value.slice ao2 o1.length cap2).ownBlock := hgrow0
      clear hgrow0
      obtain ⟨g', cap', rfl⟩ := ownsRow_succ' hown'
      obtain ⟨hv1, hv2, hr2, hw2'⟩ := WAt.appended hh.1 hh.2 hal hown' hgrow hat
      have hx3 : Boxed w3 w.heap.size 25 (.pointer (some ⟨b, 0, none⟩)) := hx5.kept hgrow (hx5.not_row (by decide) hr5)
      have hn3 : Boxed w3 (w.heap.size + 1) 3 (.int .i64 n) := hn5.kept hgrow (hn5.not_row (by decide) hr5)
      have hS3 : AddS w.heap.size b n w3 := ⟨hx3.cell, hn3.cell⟩
      simp only [Act.put, List.setIfInBounds_toArray]
      refine hK.out _ _ hS3 (fun _ => ?_)
      clear hK K
      refine takeT (i := 11) (d := 28) (v := .pointer (some ⟨b, 0, none⟩)) rfl rfl (by kernel_rfl) (by kernel_rfl) (by kernel_rfl) (fun _ _ _ h => h) (by rfl) (by (rintro w ⟨q1, q2⟩; go_simp)) hS3 ?_
      simp only [List.setIfInBounds_toArray, List.set_cons_zero, List.set_cons_succ]
      refine takeT (i := 12) (d := 29) (v := .pointer (some ⟨b, 2, none⟩)) rfl rfl (by kernel_rfl) (by kernel_rfl) (by kernel_rfl) (fun _ _ _ h => h) (by rfl) (by (rintro w ⟨q1, q2⟩; go_simp)) hS3 ?_
      simp only [List.setIfInBounds_toArray, List.set_cons_zero, List.set_cons_succ]
      refine wpAnyH_ready (rs := [13]) (by kernel_rfl) (by simp) ?_
      refine AllReadyH.cons rfl (fun K hK => ?_) AllReadyH.nil
      rw [if_pos (by rfl)]
      have hc3 := hv1.c2
      have hf3 := hv1.f2
      go_simp
      have hx4 : Boxed (w3.setCell ⟨b, 2, none⟩ (.slice (some ⟨g', 0, none⟩) (o1.length + 1) cap')) w.heap.size 25 (.pointer (some ⟨b, 0, none⟩)) := hx3.kept (grownBy_setCell2 _ _ _) (by simp; omega)
      have hn4 : Boxed (w3.setCell ⟨b, 2, none⟩ (.slice (some ⟨g', 0, none⟩) (o1.length + 1) cap')) (w.heap.size + 1) 3 (.int .i64 n) := hn3.kept (grownBy_setCell2 _ _ _) (by simp; omega)
      refine hK.out _ _ ⟨hx4.cell, hn4.cell⟩ (fun _ => ?_)
      clear hK K
      refine wpAnyH_done (by kernel_rfl) ?_ _
      refine ⟨keepsFrom_wrote _ hh hw2', ⟨?_, ?_⟩, ⟨_, ⟨hv2, ?_⟩, hwr.trans hw2'⟩, hx4, hn4⟩
      · exact hw2'.block _ (by have := hwr.size; have := Hs2.out; omega) (by omega) (fun e => by have h9 := Hs2.out; rcases hwr.own _ e.symm with e1 | e1; { have := hown1 _ e1; omega }; { omega })
      · exact hw2'.block _ (by have := hwr.size; have := Hs2.out; omega) (by omega) (fun e => by have h9 := Hs2.out; rcases hwr.own _ e.symm with e1 | e1; { have := hown1 _ e1; omega }; { omega })
      · rw [List.map_append, ← List.append_assoc, HO.out, List.map_cons, List.map_nil, bcells_append, List.length_append]
        exact hr2
  case done =>
    rintro D ys W hD rfl ⟨⟨sv2, hh, hwr⟩, hbx, hbn⟩ hK
    gi_wp2
    refine ⟨by simp, .inl ⟨_, _, rfl, run_takeDeferred hK, ?_⟩⟩
    refine ⟨_, results_none rfl _ _ _, rfl, sv2, hh.kept (grownBy_putObj' W D _) (fun r e => by cases e; exact ⟨_, hK, rfl⟩), ?_⟩
    exact ((hw00.trans hw1).trans hw12).trans (hwr.grown (grownBy_putObj' W D _) (fun r e => by cases e; exact hD))
  case stop =>
    rintro D c pre W _ _ h _
    exact h.elim

end Go.Proofs.Ytdklmeamhcgohaa
