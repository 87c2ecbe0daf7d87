/-
  PROVED HERE: what number of a reader of package cdr returns where its bytes are there.
-/
import Derived.Test.YtdklmeamhcgohaaRf
import Derived.RangeFuncWrites
namespace Go.Proofs.Ytdklmeamhcgohaa
open Go.RowKit Go.Sort

/-- BETWEEN TWO ROUNDS of number: the reader stands at the next byte; the boxes. -/
def NumI (w : World) (b : Nat) (big : Bool) (a : Int) (s : ByteArray) (q k B Bn : Nat) (pre : List Sh) (W : World) : Prop :=
  CdAt W b big a s (q + pre.length) false ∧ w.grownBy W (some b) ∧ Boxed W B 39 (.pointer (some ⟨b, 0, none⟩)) ∧ Boxed W Bn 95 (.int .u64 (accP (pieceL (bytesOf s) q k) pre))

theorem NumI.own (w2 w : World) (hle : w.heap.size ≤ w2.heap.size) (b : Nat) (big : Bool) (a : Int) (s : ByteArray) (q k B Bn : Nat) : OwnFrom w2.heap.size (NumI w b big a s q k B Bn) := by
  rintro t X Y row ⟨hh, hw, h1, h2⟩ hg hrow
  have hr : ∀ r, row = some r → ∃ o, X.heap[r]? = some o ∧ o.isCells = false := fun r e => (hrow r e).2
  refine ⟨hh.kept hg (fun e => ?_), ?_, boxed_kept h1 hg hr, boxed_kept h2 hg hr⟩
  · obtain ⟨o, ho, hc⟩ := hr b e.symm
    rw [show X.heap[b]? = _ from hh] at ho; cases ho; cases hc
  · exact ⟨hg.os.trans hw.os, hg.tape.trans hw.tape, hg.output.trans hw.output, Nat.le_trans hw.size hg.size,
      fun j hj hne => (hg.block j (Nat.lt_of_lt_of_le hj hw.size) (fun e => by have := (hrow j e.symm).1; omega)).trans (hw.block j hj hne)⟩

/-- What the first statement of a round reads. -/
structure NumS (B Bn b : Nat) (s : ByteArray) (j : Nat) (u : Int) (W : World) : Prop where
  x : W.cell? ⟨B, 0, none⟩ = some (.pointer (some ⟨b, 0, none⟩))
  u : W.cell? ⟨Bn, 0, none⟩ = some (.int .u64 u)
  s : W.cell? ⟨b, 2, none⟩ = some (.string s)
  i : W.cell? ⟨b, 3, none⟩ = some (.int .i64 (j : Int))

set_option maxRecDepth 100000 in
set_option maxHeartbeats 4000000 in
theorem number_good (b : Nat) (big : Bool) (a : Int) (s : ByteArray) (i k : Nat) (w : World) (h : CdAt w b big a s i false) (ha : 0 ≤ a) (ha2 : a ≤ 7) (hs : s.size ≤ 1000000) (hi : i ≤ s.size) (hk1 : 1 ≤ k) (hk : k ≤ 8)
    (hz : szB (k : Int) = true) (hf : firstBad (bytesOf s) i (padK' a i k) = none) (hend : i + padK' a i k + k ≤ s.size) :
    Calls Try.prog 98 #[.pointer (some ⟨b, 0, none⟩), .int .i64 k] w fun e w' => e = .returned (.tuple #[.int .u64 (valU big (pieceL (bytesOf s) (i + padK' a i k) k) : Nat), .int .i64 0]) ∧ CdAt w' b big a s (i + padK' a i k + k) false ∧ w.grownBy w' (some b) := by
  obtain ⟨w0, hw0⟩ : ∃ w0, w.alloc (.cells #[.pointer (some ⟨b, 0, none⟩)] 39) = w0 := ⟨_, rfl⟩
  have hh0 : CdAt w0 b big a s i false := hw0 ▸ h.alloc _
  have bx : Boxed w0 w.heap.size 39 (.pointer (some ⟨b, 0, none⟩)) := hw0 ▸ Boxed.new w 39 _
  have hg0 : w.grownBy w0 (some b) := hw0 ▸ World.grownBy_alloc w _ _
  have hbl := h.lt
  have hs0 : w0.heap.size = w.heap.size + 1 := by rw [← hw0]; simp
  obtain ⟨q, hq⟩ : ∃ q, i + padK' a i k = q := ⟨_, rfl⟩
  have AL := ralign_none b big a s i k w0 hh0 ha ha2 hs hi hz hf
  rw [hq] at AL hend ⊢
  have HAL := Lib.hid AL
  have Hw0 := Lib.hid hw0
  have HX := Lib.hid bx
  have HG0 := Lib.hid hg0
  have Hs0 := Lib.hid hs0
  clear AL hw0 bx hg0 hs0 hh0 hz hf hq h
  refine (callsIn_wide (n := 9)).1 ?_
  refine callsIn_of_wp_marks Try.func98 rfl trivial ?_ rfl
  simp only [Try.ntmps98, List.size_toArray, List.length_cons, List.length_nil, Nat.reduceAdd, Nat.reduceSub, Array.replicate_succ, Array.replicate_zero, List.push_toArray, List.append_toArray, List.nil_append, List.cons_append]
  gi_wp2_with fail
  rw [Hw0.out]
  refine ⟨trivial, ?_⟩
  refine (callsIn_wide.2 HAL.out).mono ?_
  rintro e w1 ⟨rfl, h1, g1⟩
  have hne : w.heap.size ≠ b := by omega
  have bx1 : Boxed w1 w.heap.size 39 (.pointer (some ⟨b, 0, none⟩)) := HX.out.kept g1 (by simp; exact hne)
  have cb := bx1.cell
  have c2 := h1.c2
  have c3 := h1.c3
  have H1 := Lib.hid h1
  have G1 := Lib.hid (HG0.out.trans g1)
  have HX1 := Lib.hid bx1
  have hs1 := g1.size
  have HS1 := Lib.hid hs1
  clear h1 g1 bx1 hs1
  have hd1 : decide ((s.size : Int) - q < k) = false := by simp; omega
  gi_wp2_with fail
  refine wpIn_wide.2 ?_
  go_quiet (fail)
  obtain ⟨wd, hwd⟩ : ∃ wd, w1.drewN nq = wd := ⟨_, rfl⟩
  have hcd : CdAt wd b big a s q false := hwd ▸ (show CdAt (w1.drewN nq) b big a s q false from H1.out)
  have hgd : w.grownBy wd (some b) := hwd ▸ G1.out.trans (grownBy_drewN w1 nq _)
  have hxd : Boxed wd w.heap.size 39 (.pointer (some ⟨b, 0, none⟩)) := hwd ▸ (show Boxed (w1.drewN nq) w.heap.size 39 (.pointer (some ⟨b, 0, none⟩)) from HX1.out)
  have hsd : w.heap.size + 1 ≤ wd.heap.size := by
    have := HS1.out
    have := Hs0.out
    have e : wd.heap.size = w1.heap.size := by rw [← hwd]; rfl
    omega
  rw [hwd]
  clear hwd cb c2 c3
  have bn0 : Boxed (wd.alloc (Obj.cells #[Value.int IntKind.u64 0] 95)) wd.heap.size 95 (.int .u64 0) := Boxed.new wd 95 _
  have cn0 := bn0.cell
  have fn0 := bn0.frozen
  obtain ⟨wi, hwi⟩ : ∃ wi, wd.alloc (Obj.cells #[Value.int IntKind.u64 0] 95) = wi := ⟨_, rfl⟩
  have gdi : wd.grownBy wi (some wd.heap.size) := hwi ▸ World.grownBy_alloc wd _ _
  have hci : CdAt wi b big a s q false := hcd.kept gdi (by simp; omega)
  have hxi : Boxed wi w.heap.size 39 (.pointer (some ⟨b, 0, none⟩)) := hxd.kept gdi (by simp; omega)
  have hni : Boxed wi wd.heap.size 95 (.int .u64 0) := hwi ▸ bn0
  have hgi : w.grownBy wi (some b) := hgd.andThen gdi (fun j e => by cases e; left; omega)
  have hsi : wi.heap.size = wd.heap.size + 1 := by rw [← hwi]; simp
  have Hsi := Lib.hid hsi
  have Hsd := Lib.hid hsd
  clear hsi hsd
  have cbi := hxi.cell
  have c0i := hci.c0
  have c1i := hci.c1
  have HWI := Lib.hid hwi
  clear hwi
  rw [← HWI.out] at cbi c0i c1i
  gi_wp2_with fail
  rw [HWI.out]
  refine ⟨trivial, ?_⟩
  refine (shifts_in Fence.wide _ trivial rfl big a k wi).mono ?_
  rintro e w2' ⟨rfl, rfl⟩
  gi_wp2_with fail
  obtain ⟨w2, hw2⟩ : ∃ w2, (wi.alloc (.cells #[.bool big, .int .i64 a] 61)).alloc (.cells #[.int .i64 k] 3) = w2 := ⟨_, rfl⟩
  have hB2 : w2.heap[wi.heap.size]? = some (.cells #[.bool big, .int .i64 a] 61 (0, 0)) := by rw [← hw2]; exact (Below.heap_alloc _ _ _ (by simp)).trans (heap_alloc_new wi _)
  have hB1 : w2.heap[wi.heap.size + 1]? = some (.cells #[.int .i64 k] 3 (0, 0)) := by
    rw [← hw2]; have := heap_alloc_new (wi.alloc (.cells #[.bool big, .int .i64 a] 61)) (.cells #[.int .i64 k] 3); rwa [World.size_alloc] at this
  have hc2 : CdAt w2 b big a s q false := hw2 ▸ (hci.alloc _).alloc _
  have hx2 : Boxed w2 w.heap.size 39 (.pointer (some ⟨b, 0, none⟩)) := hw2 ▸ (hxi.alloc _).alloc _
  have hn2 : Boxed w2 wd.heap.size 95 (.int .u64 0) := hw2 ▸ (hni.alloc _).alloc _
  have hs2' : w2.heap.size = wi.heap.size + 2 := by rw [← hw2]; simp
  have hg2 : w.grownBy w2 (some b) := hw2 ▸ (hgi.trans (World.grownBy_alloc _ _ _)).trans (World.grownBy_alloc _ _ _)
  rw [hw2]
  have Hs2 := Lib.hid hs2'
  obtain ⟨P, hP⟩ : ∃ P, pieceL (bytesOf s) q k = P := ⟨_, rfl⟩
  have hPl : P.length = k := by rw [← hP]; exact pieceL_length _ _ _ (by rw [bytesOf_length]; exact hend)
  have HP := Lib.hid hP
  have HPL := Lib.hid hPl
  clear hw2 hs2' cbi c0i c1i cn0 fn0 bn0 hci hxi hni hgi gdi hcd hgd hxd hP hPl
  refine wpIn_rangeFunc_ownG rfl (by omega) (gf := 97) (lb := #[.pointer (some ⟨wi.heap.size + 1, 0, none⟩), .pointer (some ⟨wi.heap.size, 0, none⟩)]) rfl trivial (enters_of Try.func97 (by kernel_rfl) rfl)
    (shifts_stops Fence.wide (9 - 1) trivial rfl (by omega) (wi.heap.size + 1) wi.heap.size big a k hk w2 hB1 hB2)
    (fun h k => ⟨k.1.trans h.1, k.2.trans h.2⟩)
    (fun W l o o' hl _ _ _ => ⟨World.putObj_heap_other (by have := Hs2.out; omega), World.putObj_heap_other (by have := Hs2.out; omega)⟩)
    (Below.refl _ _) (fun _ => rfl)
    (NumI w b big a s q k w.heap.size wd.heap.size)
    (fun _ _ _ => False)
    (NumI.own _ _ hg2.size _ _ _ _ _ _ _ _)
    (fun _ _ _ _ _ hs _ _ => hs)
    ⟨hc2, hg2, hx2, hn2⟩
    ?acts ?assign ?body ?done ?stop
  case assign =>
    intro l x W K hK
    gi_wp2
    rw [Oper.semAt_eq _ _ _ (fun c hc => by cases hc)]
    go_simp
    gi_wp2
    exact hK
  case body =>
    rintro l pre x W ⟨hh, hw, hbx, hbn⟩ hlt
    rw [shs_length] at hlt
    obtain ⟨j, hj⟩ : ∃ j, q + pre.length = j := ⟨_, rfl⟩
    rw [hj] at hh
    have hjs : j < s.size := by omega
    have hPj : (pieceL (bytesOf s) q k)[pre.length]? = some s[j] := by rw [pieceL_at _ _ _ _ hlt, hj]; exact byte_at s j hjs
    have hac := accP_snoc _ _ x _ hPj
    obtain ⟨u, hu⟩ : ∃ u, accP (pieceL (bytesOf s) q k) pre = u := ⟨_, rfl⟩
    rw [hu] at hac hbn
    have HAC := Lib.hid hac
    have HJ := Lib.hid hj
    have hx0 : 0 ≤ x.1 := x.2.1
    have hx1 : x.1 < 64 := x.2.2
    have hwb : IntKind.u64.wrap (s[j].toNat : Int) = (s[j].toNat : Int) := wraps_u64 _ (by omega) (by have := s[j].toNat_lt; omega)
    clear hac hj hPj hu
    refine wpIn_block ?_
    gi_wp2_with fail
    have hS : NumS w.heap.size wd.heap.size b s j u W.drew := ⟨hbx.cell, hbn.cell, hh.c2, hh.c3⟩
    have hcn : W.drew.cell? ⟨wd.heap.size, 0, none⟩ = some (.int .u64 u) := hbn.cell
    have hfn : W.drew.frozen? ⟨wd.heap.size, 0, none⟩ = false := hbn.frozen
    refine wpIn_region_roundC (S := NumS w.heap.size wd.heap.size b s j u) (c := 14) (by kernel_rfl) (by kernel_rfl) (fun ⟨_, _, h⟩ => h) ?_
    refine takeC 9 (i := 0) (d := 41) (v := .int .u64 u) rfl rfl (by kernel_rfl) (by kernel_rfl) (by kernel_rfl) (by decide) (by kernel_rfl) (fun _ _ _ h => h) (by rfl) (by (rintro w ⟨p0, p1, p2, p3⟩; go_simp)) hS ?_
    simp only [List.setIfInBounds_toArray, List.set_cons_zero, List.set_cons_succ]
    refine takeC 9 (i := 1) (d := 42) (v := .pointer (some ⟨b, 0, none⟩)) rfl rfl (by kernel_rfl) (by kernel_rfl) (by kernel_rfl) (by decide) (by kernel_rfl) (fun _ _ _ h => h) (by rfl) (by (rintro w ⟨p0, p1, p2, p3⟩; go_simp)) hS ?_
    simp only [List.setIfInBounds_toArray, List.set_cons_zero, List.set_cons_succ]
    refine takeC 9 (i := 2) (d := 43) (v := .pointer (some ⟨b, 0, none⟩)) rfl rfl (by kernel_rfl) (by kernel_rfl) (by kernel_rfl) (by decide) (by kernel_rfl) (fun _ _ _ h => h) (by rfl) (by (rintro w ⟨p0, p1, p2, p3⟩; go_simp)) hS ?_
    simp only [List.setIfInBounds_toArray, List.set_cons_zero, List.set_cons_succ]
    refine takeC 9 (i := 3) (d := 44) (v := .pointer (some ⟨b, 2, none⟩)) rfl rfl (by kernel_rfl) (by kernel_rfl) (by kernel_rfl) (by decide) (by kernel_rfl) (fun _ _ _ h => h) (by rfl) (by (rintro w ⟨p0, p1, p2, p3⟩; go_simp)) hS ?_
    simp only [List.setIfInBounds_toArray, List.set_cons_zero, List.set_cons_succ]
    refine takeC 9 (i := 4) (d := 45) (v := .string s) rfl rfl (by kernel_rfl) (by kernel_rfl) (by kernel_rfl) (by decide) (by kernel_rfl) (fun _ _ _ h => h) (by rfl) (by (rintro w ⟨p0, p1, p2, p3⟩; go_simp)) hS ?_
    simp only [List.setIfInBounds_toArray, List.set_cons_zero, List.set_cons_succ]
    refine takeC 9 (i := 5) (d := 46) (v := .pointer (some ⟨b, 0, none⟩)) rfl rfl (by kernel_rfl) (by kernel_rfl) (by kernel_rfl) (by decide) (by kernel_rfl) (fun _ _ _ h => h) (by rfl) (by (rintro w ⟨p0, p1, p2, p3⟩; go_simp)) hS ?_
    simp only [List.setIfInBounds_toArray, List.set_cons_zero, List.set_cons_succ]
    refine takeC 9 (i := 6) (d := 47) (v := .pointer (some ⟨b, 0, none⟩)) rfl rfl (by kernel_rfl) (by kernel_rfl) (by kernel_rfl) (by decide) (by kernel_rfl) (fun _ _ _ h => h) (by rfl) (by (rintro w ⟨p0, p1, p2, p3⟩; go_simp)) hS ?_
    simp only [List.setIfInBounds_toArray, List.set_cons_zero, List.set_cons_succ]
    refine takeC 9 (i := 7) (d := 48) (v := .pointer (some ⟨b, 3, none⟩)) rfl rfl (by kernel_rfl) (by kernel_rfl) (by kernel_rfl) (by decide) (by kernel_rfl) (fun _ _ _ h => h) (by rfl) (by (rintro w ⟨p0, p1, p2, p3⟩; go_simp)) hS ?_
    simp only [List.setIfInBounds_toArray, List.set_cons_zero, List.set_cons_succ]
    refine takeC 9 (i := 8) (d := 49) (v := .int .i64 j) rfl rfl (by kernel_rfl) (by kernel_rfl) (by kernel_rfl) (by decide) (by kernel_rfl) (fun _ _ _ h => h) (by rfl) (by (rintro w ⟨p0, p1, p2, p3⟩; go_simp)) hS ?_
    simp only [List.setIfInBounds_toArray, List.set_cons_zero, List.set_cons_succ]
    refine takeC 9 (i := 9) (d := 50) (v := .int .u8 (s[j].toNat : Int)) rfl rfl (by kernel_rfl) (by kernel_rfl) (by kernel_rfl) (by decide) (by kernel_rfl) (fun _ _ _ h => h) (by rfl) (by (rintro w ⟨p0, p1, p2, p3⟩; go_simp)) hS ?_
    simp only [List.setIfInBounds_toArray, List.set_cons_zero, List.set_cons_succ]
    refine takeC 9 (i := 10) (d := 51) (v := .int .u64 (s[j].toNat : Int)) rfl rfl (by kernel_rfl) (by kernel_rfl) (by kernel_rfl) (by decide) (by kernel_rfl) (fun _ _ _ h => h) (by rfl) (by (rintro w ⟨p0, p1, p2, p3⟩; go_simp)) hS ?_
    simp only [List.setIfInBounds_toArray, List.set_cons_zero, List.set_cons_succ]
    refine takeC 9 (i := 11) (d := 52) (v := .int .i64 x.1) rfl rfl (by kernel_rfl) (by kernel_rfl) (by kernel_rfl) (by decide) (by kernel_rfl) (fun _ _ _ h => h) (by rfl) (by (rintro w ⟨p0, p1, p2, p3⟩; go_simp)) hS ?_
    simp only [List.setIfInBounds_toArray, List.set_cons_zero, List.set_cons_succ]
    refine takeC 9 (i := 12) (d := 53) (v := .int .u64 (IntKind.u64.wrap ((s[j].toNat : Int) * 2 ^ x.1.toNat))) rfl rfl (by kernel_rfl) (by kernel_rfl) (by kernel_rfl) (by decide) (by kernel_rfl) (fun _ _ _ h => h) (by rfl) (by (rintro w ⟨p0, p1, p2, p3⟩; go_simp)) hS ?_
    simp only [List.setIfInBounds_toArray, List.set_cons_zero, List.set_cons_succ]
    refine takeC 9 (i := 13) (d := 54) (v := .int .u64 (join1 u x s[j])) rfl rfl (by kernel_rfl) (by kernel_rfl) (by kernel_rfl) (by decide) (by kernel_rfl) (fun _ _ _ h => h) (by rfl) (by (rintro w ⟨p0, p1, p2, p3⟩; (unfold join1; go_simp))) hS ?_
    simp only [List.setIfInBounds_toArray, List.set_cons_zero, List.set_cons_succ]
    refine stepC (by kernel_rfl) rfl (fun K hK => ?_)
    rw [if_pos (by rfl)]
    go_simp
    have hgr4 : W.grownBy (W.setCell ⟨wd.heap.size, 0, none⟩ (.int .u64 (join1 u x s[j]))).drew (some wd.heap.size) := ⟨rfl, rfl, rfl, by simp [World.setCell], fun n _ hn => Below.heap_setCell _ _ _ n (fun e => hn (by rw [e]))⟩
    have hsd := Hsd.out
    have hv4 := hh.kept hgr4 (by simp; omega)
    have hx4 := hbx.kept hgr4 (by simp; omega)
    have hn4' : ∀ v, v = join1 u x s[j] → Boxed (W.setCell ⟨wd.heap.size, 0, none⟩ (.int .u64 (join1 u x s[j]))).drew wd.heap.size 95 (.int .u64 v) := by
      intro v hv
      subst hv
      exact hbn.set (.int .u64 (join1 u x s[j]))
    have hn4 := hn4' _ HAC.out
    clear hn4'
    have hk4 : KeepsFrom w2.heap.size W (W.setCell ⟨wd.heap.size, 0, none⟩ (.int .u64 (join1 u x s[j]))).drew := by
      have := keeps_set (B := w2.heap.size) (p := ⟨wd.heap.size, 0, none⟩) (u := .int .u64 (join1 u x s[j])) (show W.heap[wd.heap.size]? = _ from hbn)
      exact ⟨this.size, this.same⟩
    have Hp : Hid (∀ B, B ≠ wd.heap.size → (W.setCell ⟨wd.heap.size, 0, none⟩ (.int .u64 (join1 u x s[j]))).drew.heap[B]? = W.heap[B]?) := Lib.hid fun B hB => Below.heap_setCell W ⟨wd.heap.size, 0, none⟩ _ B hB
    refine hK.out _ _ ?_
    clear hK K hcn hfn hS hwb
    generalize (W.setCell ⟨wd.heap.size, 0, none⟩ (.int .u64 (join1 u x s[j]))).drew = W4 at hgr4 hv4 hx4 hn4 hk4 Hp
    refine doneC (by kernel_rfl) ?_ _
    have cx4 := hx4.cell
    have c34 := hv4.c3
    have f34 := hv4.f3
    have hwk : IntKind.i64.wrap ((j : Int) + 1) = (j : Int) + 1 := IntWalk.i64_in _ (by omega)
    gi_wp2_with fail
    rw [Oper.semAt_eq _ _ _ (fun c hc => by cases hc)]
    go_simp
    gi_wp2_with fail
    rw [Oper.semAt_eq _ _ _ (fun c hc => by cases hc)]
    go_simp
    gi_wp2_with fail
    rw [Oper.semAt_eq _ _ _ (fun c hc => by cases hc)]
    go_simp
    gi_wp2_with fail
    rw [Oper.semAt_eq _ _ _ (fun c hc => by cases hc)]
    go_simp
    gi_wp2_with fail
    rw [Oper.semAt_eq _ _ _ (fun c hc => by cases hc)]
    go_simp
    gi_wp2_with fail
    rw [Oper.semAt_eq _ _ _ (fun c hc => by cases hc)]
    go_simp
    gi_wp2_with fail
    rw [Oper.semAt_eq _ _ _ (fun c hc => by cases hc)]
    go_simp
    gi_wp2_with fail
    rw [Oper.semAt_eq _ _ _ (fun c hc => by cases hc)]
    go_simp
    gi_wp2_with fail
    have hgr5 : W4.grownBy (W4.setCell ⟨b, 3, none⟩ (.int .i64 ((j : Int) + 1))) (some b) := grownBy_setCell2 _ _ _
    have hs2 := Hs2.out
    have hsi := Hsi.out
    have hw2s := hw.size
    have hcast : ((j + 1 : Nat) : Int) = (j : Int) + 1 := by omega
    refine ⟨⟨Nat.le_trans hk4.size hgr5.size, fun m o hm hm2 ho => ?_⟩, ⟨?_, ?_⟩, ?_, ?_, hx4.kept hgr5 (by simp; omega), hn4.kept hgr5 (by simp; omega)⟩
    · exact (keeps_set (B := w2.heap.size) (p := ⟨b, 3, none⟩) (u := .int .i64 ((j : Int) + 1)) (show W4.heap[b]? = _ from hv4)).same m o hm (hk4.same m o hm hm2 ho) ho
    · exact (Below.heap_setCell W4 ⟨b, 3, none⟩ _ _ (by simp; omega)).trans (Hp.out _ (by omega))
    · exact (Below.heap_setCell W4 ⟨b, 3, none⟩ _ _ (by simp; omega)).trans (Hp.out _ (by omega))
    · have h5 := hv4.set3 (j + 1)
      rw [hcast] at h5
      rw [show q + (pre ++ [x]).length = j + 1 from by have := HJ.out; simp; omega]
      exact h5
    · exact ⟨(hgr5.os.trans hgr4.os).trans hw.os, (hgr5.tape.trans hgr4.tape).trans hw.tape, (hgr5.output.trans hgr4.output).trans hw.output, Nat.le_trans (Nat.le_trans hw.size hgr4.size) hgr5.size,
        fun m hm hne2 => (hgr5.block m (by have := hgr4.size; omega) hne2).trans ((hgr4.block m (by omega) (by simp; omega)).trans (hw.block m hm hne2))⟩
  case done =>
    rintro D ys W hD rfl ⟨hh, hw, hbx, hbn⟩ hK
    have hu : accP (pieceL (bytesOf s) q k) (shs big k k) = (valU big (pieceL (bytesOf s) q k) : Nat) := by
      have := HPL.out
      rw [← HP.out] at this
      exact acc_all big _ k hk this
    rw [hu] at hbn
    rw [shs_length] at hh
    have cn := hbn.cell
    gi_wp2
    refine ⟨by simp, .inl ⟨_, _, rfl, run_takeDeferred hK, ?_⟩⟩
    have hb2 : b < w2.heap.size := hc2.lt
    have hw2 := hg2.size
    refine ⟨.tuple #[.int .u64 (valU big (pieceL (bytesOf s) q k) : Nat), .int .i64 0], by simp [results, Try.results98, go_sem], rfl, ?_, ?_⟩
    · exact hh.kept (grownBy_putObj' W D _) (by simp; omega)
    · exact hw.andThen (grownBy_putObj' W D _) (fun j e => by cases e; left; omega)
  case stop =>
    rintro D c pre W _ _ h _
    exact h.elim

end Go.Proofs.Ytdklmeamhcgohaa
