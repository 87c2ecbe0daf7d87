/-
  PROVED HERE: what Put of a writer of package cdr writes where the place is right and the number fits.
-/
import Derived.Test.YtdklmeamhcgohaaZb
namespace Go.Proofs.Ytdklmeamhcgohaa
open Go.RowKit Go.Sort

set_option maxRecDepth 100000 in
set_option maxHeartbeats 4000000 in
theorem put_good (b : Nat) (big : Bool) (a place n : Int) (sv : Value) (out : List UInt8) (w : World) (h : Holds w b big a sv out) (ha : 0 ≤ a) (ha2 : a ≤ 7) (hL : out.length ≤ 100000000) (hk : putP a place out.length = true) (hf : fitsN 4 n = true) :
    Calls Try.prog 20 #[.pointer (some ⟨b, 0, none⟩), .int .i64 place, .int .i64 n] w fun e w' => e = .returned (.int .i64 0) ∧ ∃ sv', Holds w' b big a sv' (patch out (place - a).toNat (numB n big 4)) ∧ Wrote w w' b sv sv' := by
  obtain ⟨w0, hw0⟩ : ∃ w0, (w.alloc (.cells #[.pointer (some ⟨b, 0, none⟩)] 25)).alloc (.cells #[.int .i64 n] 3) = w0 := ⟨_, rfl⟩
  have hh0 : Holds w0 b big a sv out := hw0 ▸ (h.alloc _).alloc _
  have hs0 : w0.heap.size = w.heap.size + 2 := by rw [← hw0]; simp
  have bx : Boxed w0 w.heap.size 25 (.pointer (some ⟨b, 0, none⟩)) := hw0 ▸ (Boxed.new w 25 _).alloc _
  have bn : Boxed w0 (w.heap.size + 1) 3 (.int .i64 n) := by rw [← hw0]; have := Boxed.new (w.alloc (.cells #[.pointer (some ⟨b, 0, none⟩)] 25)) 3 (.int .i64 n); rwa [World.size_alloc] at this
  have hw00 : Wrote w w0 b sv sv := hw0 ▸ ((Wrote.refl w b sv).alloc _).alloc _
  have hbl := h.1.lt
  have hown : ∀ g, sv.ownBlock = some g → g < w.heap.size := fun g hg => h.own_lt hg
  obtain ⟨g, cap, rfl⟩ : ∃ g cap, sv = .slice (some ⟨g, 0, none⟩) out.length cap := by
    rcases h.2.2 with ⟨_, h0⟩ | ⟨g, cap, _, e, _⟩
    · simp only [putP, Bool.and_eq_true, decide_eq_true_eq] at hk
      omega
    · exact ⟨g, cap, e⟩
  have hgl : g < w.heap.size := hown g rfl
  have kb := cell_regrown bx.cell
  have kn := cell_regrown bn.cell
  have k1 := cell_regrown hh0.1.c1
  have cP : Hid (∀ d os, Calls Try.prog 15 #[.pointer (some ⟨b, 0, none⟩)] (grow (redrawn w0 d) os) fun e w'' => e = .returned (.int .i64 (a + out.length)) ∧ ∃ p : Regrown, w'' = grow (redrawn w0 p.d) p.os) := Lib.hid fun d os => Calls.regrown_of
    ((place_any b big a (some ⟨g, 0, none⟩) out.length cap _ (hh0.below (below_regrown w0 d os)).1 ha ha2 (by omega)).mono fun _ _ ⟨he, m, hm⟩ => ⟨he, by rw [hm]; exact Below.ofDrewN _ _⟩)
  have cS := Lib.hid fun d os => Calls.regrown_of (sizes_any (grow (redrawn w0 d) os))
  have cF : Hid (∀ d os, Calls Try.prog 95 #[.int .i64 n] (grow (redrawn w0 d) os) fun e w'' => e = .returned (.bool true) ∧ ∃ p : Regrown, w'' = grow (redrawn w0 p.d) p.os) := Lib.hid fun d os => Calls.regrown_of
    ((fit4 n _).mono fun _ _ ⟨he, hm⟩ => ⟨by rw [he, hf], by rw [← hm]; exact Below.refl _ _⟩)
  have hix : ∀ w, (Instr.index 70 (.agg #[.nilFunc, .func (.func 93) #[] #[], .func (.func 94) #[] #[], .nilFunc, .func (.func 95) #[] #[], .nilFunc, .nilFunc, .nilFunc, .func (.func 96) #[] #[]]) (.int .i64 4)).run Try.prog w = .ok (.func (.func 95) #[] #[]) w := fun _ => by kernel_rfl
  simp only [putP, Bool.and_eq_true, decide_eq_true_eq] at hk
  obtain ⟨⟨q1, q2⟩, q3⟩ := hk
  obtain ⟨i, hi⟩ : ∃ i : Nat, place - a = (i : Int) := ⟨(place - a).toNat, by omega⟩
  have hiL : i + 4 ≤ out.length := by omega
  have hi2 : (place - a).toNat = i := by omega
  rw [hi2]
  have hp0 : 0 ≤ place := by omega
  have h4 : place.tmod 4 = 0 := by rw [Int.tmod_eq_emod_of_nonneg hp0]; exact q3
  have hd1 : decide (place < a) = false := by simp; omega
  have hd2 : decide (a + out.length - 4 < place) = false := by simp; omega
  have hd3 : (place.tmod 4 == 0) = true := by simpa using h4
  have hwr : IntKind.i64.wrap (a + out.length - 4) = a + out.length - 4 := IntWalk.i64_in _ (by omega)
  have HW := Lib.hid hw00
  have HH := Lib.hid hh0
  have Hw0 := Lib.hid hw0
  have Hs0 := Lib.hid hs0
  have HX := Lib.hid bx
  have HN := Lib.hid bn
  have HI := Lib.hid hi
  have HL := Lib.hid hiL
  clear hh0 hw00 bx bn hw0 h hf q3 hs0 hi2 hiL
  refine (callsIn_wide (n := 9)).1 ?_
  refine callsIn_of_wp_marks Try.func20 rfl trivial ?_ rfl
  simp only [Try.ntmps20, List.size_toArray, List.length_cons, List.length_nil, Nat.reduceAdd, Nat.reduceSub, Array.replicate_succ, Array.replicate_zero, List.push_toArray, List.append_toArray, List.nil_append, List.cons_append]
  gi_wp2_with fail
  rw [Hw0.out]
  refine wpIn_wide.2 ?_
  refine wp_region_quiet_below (by kernel_rfl) (by kernel_rfl) ?_
  repeat (quiet_step (first | exact cP.out _ _ | exact cS.out _ _ | exact cF.out _ _))
  refine wpQuiet_nil ?_
  intro _ hw'
  obtain ⟨⟨dq, osq⟩, hw''⟩ := hw'
  subst hw''
  have hbel := below_regrown w0 dq osq
  have hh1 := HH.out.below hbel
  have hw1 := HW.out.below hbel
  have bx1 : Boxed (grow (redrawn w0 dq) osq) w.heap.size 25 (.pointer (some ⟨b, 0, none⟩)) := HX.out.kept (Below.grownBy hbel) (by simp)
  have bn1 : Boxed (grow (redrawn w0 dq) osq) (w.heap.size + 1) 3 (.int .i64 n) := HN.out.kept (Below.grownBy hbel) (by simp)
  dsimp only
  generalize grow (redrawn w0 dq) osq = w1 at hbel hh1 hw1 bx1 bn1
  clear kb kn k1 cP cS cF hix hd1 hd2 hd3 hwr
  have cb := bx1.cell
  have c0 := hh1.1.c0
  have c1 := hh1.1.c1
  have hw1s := hbel.size
  have hs0 := Hs0.out
  have bi : Boxed (w1.alloc (Obj.cells #[Value.int IntKind.i64 i] 3)) w1.heap.size 3 (.int .i64 i) := Boxed.new w1 3 _
  have bxi := bx1.alloc (Obj.cells #[Value.int IntKind.i64 i] 3)
  have bni := bn1.alloc (Obj.cells #[Value.int IntKind.i64 i] 3)
  have hhi := hh1.alloc (Obj.cells #[Value.int IntKind.i64 i] 3)
  have hwi := hw1.alloc (Obj.cells #[Value.int IntKind.i64 i] 3)
  have hsi : (w1.alloc (Obj.cells #[Value.int IntKind.i64 i] 3)).heap.size = w1.heap.size + 1 := by simp
  have cbi := bxi.cell
  have c0i := hhi.1.c0
  have c1i := hhi.1.c1
  have Hsz := Lib.hid (show w.heap.size + 2 ≤ w1.heap.size by omega)
  clear hw1s hs0
  gi_wp2_with fail
  obtain ⟨Bi, hBi⟩ : ∃ Bi, w1.heap.size = Bi := ⟨_, rfl⟩
  generalize w1.alloc (Obj.cells #[Value.int IntKind.i64 i] 3) = wi at bi bxi bni hhi hwi hsi cbi c0i c1i
  rw [hBi] at bi hsi Hsz
  rw [hBi]
  clear hBi cbi c0i c1i hh1 hw1 bx1 bn1 cb c0 c1 hbel
  have Hsi := Lib.hid hsi
  clear hsi
  refine ⟨trivial, ?_⟩
  refine (shifts_in Fence.wide _ trivial rfl big a 4 wi).mono ?_
  rintro e w2' ⟨rfl, rfl⟩
  gi_wp2_with fail
  obtain ⟨w2, hw2⟩ : ∃ w2, (wi.alloc (.cells #[.bool big, .int .i64 a] 61)).alloc (.cells #[.int .i64 4] 3) = w2 := ⟨_, rfl⟩
  have hB2 : w2.heap[wi.heap.size]? = some (.cells #[.bool big, .int .i64 a] 61 (0, 0)) := by rw [← hw2]; exact (Below.heap_alloc _ _ _ (by simp)).trans (heap_alloc_new wi _)
  have hB1 : w2.heap[wi.heap.size + 1]? = some (.cells #[.int .i64 4] 3 (0, 0)) := by
    rw [← hw2]; have := heap_alloc_new (wi.alloc (.cells #[.bool big, .int .i64 a] 61)) (.cells #[.int .i64 4] 3); rwa [World.size_alloc] at this
  have hh2 : Holds w2 b big a (.slice (some ⟨g, 0, none⟩) out.length cap) out := hw2 ▸ (hhi.alloc _).alloc _
  have bx2 : Boxed w2 w.heap.size 25 (.pointer (some ⟨b, 0, none⟩)) := hw2 ▸ (bxi.alloc _).alloc _
  have bn2 : Boxed w2 (w.heap.size + 1) 3 (.int .i64 n) := hw2 ▸ (bni.alloc _).alloc _
  have bi2 : Boxed w2 Bi 3 (.int .i64 i) := hw2 ▸ (bi.alloc _).alloc _
  have hs2' : w2.heap.size = wi.heap.size + 2 := by rw [← hw2]; simp
  have hw02 : Wrote w w2 b (.slice (some ⟨g, 0, none⟩) out.length cap) (.slice (some ⟨g, 0, none⟩) out.length cap) := hw2 ▸ (hwi.alloc _).alloc _
  rw [hw2]
  have Hs2 := Lib.hid hs2'
  clear hs2' hw2 hwi
  refine wpIn_rangeFunc_ownG rfl (by omega) (gf := 97) (lb := #[.pointer (some ⟨wi.heap.size + 1, 0, none⟩), .pointer (some ⟨wi.heap.size, 0, none⟩)]) rfl trivial (enters_of Try.func97 (by kernel_rfl) rfl)
    (shifts_stops Fence.wide (9 - 1) trivial rfl (by omega) (wi.heap.size + 1) wi.heap.size big a 4 (by omega) w2 hB1 hB2)
    (fun h k => ⟨k.1.trans h.1, k.2.trans h.2⟩)
    (fun W l o o' hl _ _ _ => ⟨World.putObj_heap_other (by have := Hs2.out; omega), World.putObj_heap_other (by have := Hs2.out; omega)⟩)
    (Below.refl _ _) (fun _ => rfl)
    (PutI w b big a (.slice (some ⟨g, 0, none⟩) out.length cap) out n i w.heap.size Bi)
    (fun _ _ _ => False)
    (PutI.own _ _ hw02.size _ _ _ _ _ _ _ _ _)
    (fun _ _ _ _ _ hs _ _ => hs)
    ⟨⟨by rw [List.map_nil, patch_nil]; exact hh2, hw02⟩, bx2, bn2, bi2⟩
    (fun x => { tmps := #[.pointer (some ⟨b, 0, none⟩), .int .i64 place, .int .i64 n, .pointer (some ⟨w.heap.size, 0, none⟩), undef, .pointer (some ⟨w.heap.size + 1, 0, none⟩), .int .i64 0, .pointer (some ⟨Bi, 0, none⟩), .int .i64 x.1,
      .pointer (some ⟨b, 0, none⟩), .bool false, .int .i64 place, .pointer (some ⟨b, 0, none⟩), .pointer (some ⟨b, 0, none⟩), .pointer (some ⟨b, 0, none⟩), .pointer (some ⟨b, 1, none⟩), .int .i64 a, .bool false, .bool false, .int .i64 place,
      .pointer (some ⟨b, 0, none⟩), .int .i64 (a + out.length), .int .i64 (a + out.length - 4), .bool false, .bool false, .bool false, .int .i64 place, .int .i64 0, .bool false, .bool false, .bool false,
      .agg #[.nilFunc, .func (.func 93) #[] #[], .func (.func 94) #[] #[], .nilFunc, .func (.func 95) #[] #[], .nilFunc, .nilFunc, .nilFunc, .func (.func 96) #[] #[]], .func (.func 95) #[] #[], .int .i64 n, .bool true, .bool false, .bool false,
      .int .i64 place, .pointer (some ⟨b, 0, none⟩), .pointer (some ⟨b, 0, none⟩), .pointer (some ⟨b, 0, none⟩), .pointer (some ⟨b, 1, none⟩), .int .i64 a, .int .i64 i,
      .pointer (some ⟨b, 0, none⟩), .pointer (some ⟨b, 0, none⟩), .pointer (some ⟨b, 0, none⟩), .agg #[.bool big, .int .i64 a],
      .func (.func 97) #[] #[.pointer (some ⟨wi.heap.size + 1, 0, none⟩), .pointer (some ⟨wi.heap.size, 0, none⟩)], .int .i64 x.1, undef, undef, undef, undef, undef, undef, undef, undef, undef, undef, undef, undef], defers := [] }) ?assign ?body ?done ?stop
  case assign =>
    intro l x W K hK
    gi_wp2
    rw [Oper.semAt_eq _ _ _ (fun c hc => by cases hc)]
    go_simp
    gi_wp2
    exact hK
  case body =>
    rintro l pre x W ⟨⟨hh, hwr⟩, hbx, hbn, hbi⟩ hlt
    rw [shs_length] at hlt
    obtain ⟨k, hk⟩ : ∃ k, i + pre.length = k := ⟨_, rfl⟩
    rw [hk] at hbi
    have hkL : k < out.length := by have := HL.out; omega
    obtain ⟨o1, ho1⟩ : ∃ o1, patch out i (pre.map (bt n)) = o1 := ⟨_, rfl⟩
    have hol : o1.length = out.length := by rw [← ho1]; exact patch_length _ _ _ (by have := HL.out; simp; omega)
    have hst : o1.set k (bt n x) = patch out i ((pre ++ [x]).map (bt n)) := by
      rw [← ho1, ← hk, List.map_append, List.map_cons, List.map_nil]
      have := patch_step out i (pre.map (bt n)) (bt n x) (by simp; omega)
      simpa using this
    rw [ho1] at hh
    have HST := Lib.hid hst
    have HOL := Lib.hid hol
    have HK := Lib.hid hk
    clear hst ho1 hk
    have hrow := hh.2
    rw [hol] at hrow
    have hcell : W.cell? ⟨g, k, none⟩ = some (.int .u8 ((o1[k]'(by rw [hol]; exact hkL)).toNat : Int)) := by
      rw [hrow.cellAt k (by omega)]
      simp [bcells, hol, hkL]
    have hfroz : W.frozen? ⟨g, k, none⟩ = false := hrow.frozenAt k
    generalize (o1[k]'(by rw [hol]; exact hkL)) = old at hcell
    have hgW : W.heap[g]? ≠ none := by
      intro e
      simp [World.cell?, e] at hcell
    refine wpIn_block ?_
    have hx0 : 0 ≤ x.1 := x.2.1
    have hx1 : x.1 < 64 := x.2.2
    gi_wp2_with fail
    refine wpIn_region_round (S := PutS w.heap.size Bi b g k cap out.length n) (by kernel_rfl) (by kernel_rfl) (fun ⟨_, _, h⟩ => h) ?_
    have hS : PutS w.heap.size Bi b g k cap out.length n W.drew := ⟨hbx.cell, hbn.cell, hbi.cell, hh.1.c2⟩
    refine takeT (i := 0) (d := 50) (v := .pointer (some ⟨b, 0, none⟩)) rfl rfl (by kernel_rfl) (by kernel_rfl) (by kernel_rfl) (fun _ _ _ h => h) (by rfl) (by (rintro w ⟨p1, p2, p3, p4⟩; go_simp)) hS ?_
    simp only [List.setIfInBounds_toArray, List.set_cons_zero, List.set_cons_succ]
    refine takeT (i := 1) (d := 51) (v := .pointer (some ⟨b, 0, none⟩)) rfl rfl (by kernel_rfl) (by kernel_rfl) (by kernel_rfl) (fun _ _ _ h => h) (by rfl) (by (rintro w ⟨p1, p2, p3, p4⟩; go_simp)) hS ?_
    simp only [List.setIfInBounds_toArray, List.set_cons_zero, List.set_cons_succ]
    refine takeT (i := 2) (d := 52) (v := .pointer (some ⟨b, 2, none⟩)) rfl rfl (by kernel_rfl) (by kernel_rfl) (by kernel_rfl) (fun _ _ _ h => h) (by rfl) (by (rintro w ⟨p1, p2, p3, p4⟩; go_simp)) hS ?_
    simp only [List.setIfInBounds_toArray, List.set_cons_zero, List.set_cons_succ]
    refine takeT (i := 3) (d := 53) (v := .slice (some ⟨g, 0, none⟩) out.length cap) rfl rfl (by kernel_rfl) (by kernel_rfl) (by kernel_rfl) (fun _ _ _ h => h) (by rfl) (by (rintro w ⟨p1, p2, p3, p4⟩; go_simp)) hS ?_
    simp only [List.setIfInBounds_toArray, List.set_cons_zero, List.set_cons_succ]
    refine takeT (i := 4) (d := 54) (v := .int .i64 (k : Int)) rfl rfl (by kernel_rfl) (by kernel_rfl) (by kernel_rfl) (fun _ _ _ h => h) (by rfl) (by (rintro w ⟨p1, p2, p3, p4⟩; go_simp)) hS ?_
    simp only [List.setIfInBounds_toArray, List.set_cons_zero, List.set_cons_succ]
    refine takeT (i := 5) (d := 55) (v := .int .i64 n) rfl rfl (by kernel_rfl) (by kernel_rfl) (by kernel_rfl) (fun _ _ _ h => h) (by rfl) (by (rintro w ⟨p1, p2, p3, p4⟩; go_simp)) hS ?_
    simp only [List.setIfInBounds_toArray, List.set_cons_zero, List.set_cons_succ]
    refine takeT (i := 6) (d := 56) (v := .int .i64 x.1) rfl rfl (by kernel_rfl) (by kernel_rfl) (by kernel_rfl) (fun _ _ _ h => h) (by rfl) (by (rintro w ⟨p1, p2, p3, p4⟩; go_simp)) hS ?_
    simp only [List.setIfInBounds_toArray, List.set_cons_zero, List.set_cons_succ]
    refine takeT (i := 7) (d := 57) (v := .int .i64 (n / 2 ^ x.1.toNat)) rfl rfl (by kernel_rfl) (by kernel_rfl) (by kernel_rfl) (fun _ _ _ h => h) (by rfl) (by (rintro w ⟨p1, p2, p3, p4⟩; go_simp)) hS ?_
    simp only [List.setIfInBounds_toArray, List.set_cons_zero, List.set_cons_succ]
    refine takeT (i := 8) (d := 58) (v := .int .u8 ((bt n x).toNat : Int)) rfl rfl (by kernel_rfl) (by kernel_rfl) (by kernel_rfl) (fun _ _ _ h => h) (by rfl) (by (rintro w ⟨p1, p2, p3, p4⟩; go_simp; rw [bt_val]; rfl)) hS ?_
    simp only [List.setIfInBounds_toArray, List.set_cons_zero, List.set_cons_succ]
    refine takeT (i := 9) (d := 59) (v := .pointer (some ⟨g, k, none⟩)) rfl rfl (by kernel_rfl) (by kernel_rfl) (by kernel_rfl) (fun _ _ _ h => h) (by rfl) (by (rintro w ⟨p1, p2, p3, p4⟩; go_simp)) hS ?_
    simp only [List.setIfInBounds_toArray, List.set_cons_zero, List.set_cons_succ]
    refine wpAnyH_ready (rs := [10]) (by kernel_rfl) (by simp) ?_
    refine AllReadyH.cons rfl (fun K hK => ?_) AllReadyH.nil
    rw [if_pos (by rfl)]
    have hcellD : W.drew.cell? ⟨g, k, none⟩ = some (.int .u8 (old.toNat : Int)) := hcell
    have hfrozD : W.drew.frozen? ⟨g, k, none⟩ = false := hfroz
    go_simp
    have hgr : W.grownBy (W.setCell ⟨g, k, none⟩ (.int .u8 ((bt n x).toNat : Int))).drew (some g) := ⟨rfl, rfl, rfl, by simp [World.setCell], fun j _ hj => Below.heap_setCell _ _ _ j (fun e => hj (by rw [e]))⟩
    have hbg : some b ≠ some g := hh.1.not_row hh.2
    have hsz := Hsz.out
    have hv4 := hh.1.kept hgr hbg
    have hbx4 := hbx.kept hgr (by simp; omega)
    have hbn4 := hbn.kept hgr (by simp; omega)
    have hbi4 := hbi.kept hgr (by simp; omega)
    have hr4 := (hrow.stored k (.int .u8 ((bt n x).toNat : Int))).1
    have hr4 : (W.setCell ⟨g, k, none⟩ (.int .u8 ((bt n x).toNat : Int))).drew.ownsRow 0 5 1 (.slice (some ⟨g, 0, none⟩) out.length cap) out.length ((bcells o1).set k (.int .u8 ((bt n x).toNat : Int))) := hr4
    rw [show (bcells o1).set k (.int .u8 ((bt n x).toNat : Int)) = bcells (o1.set k (bt n x)) from by simp [bcells, List.map_set], HST.out] at hr4
    have hk4 : KeepsFrom w2.heap.size W (W.setCell ⟨g, k, none⟩ (.int .u8 ((bt n x).toNat : Int))).drew := by
      obtain ⟨cs, hcs⟩ : ∃ cs, W.heap[g]? = some (.cells cs 5 (0, 0)) := by
        rcases hh.2.2 with ⟨e, _⟩ | ⟨g', _, cur, e, _, hg', _⟩
        · simp at e
        · have hgg : g' = g := by
            simp at e
            exact e.1.symm
          exact ⟨cur, hgg ▸ hg'⟩
      have := keeps_set (B := w2.heap.size) (p := ⟨g, k, none⟩) (u := .int .u8 ((bt n x).toNat : Int)) hcs
      exact ⟨this.size, this.same⟩
    have hw4 : Wrote W (W.setCell ⟨g, k, none⟩ (.int .u8 ((bt n x).toNat : Int))).drew b (.slice (some ⟨g, 0, none⟩) out.length cap) (.slice (some ⟨g, 0, none⟩) out.length cap) :=
      ⟨rfl, rfl, rfl, hgr.size, fun j hj _ hne => hgr.block j hj hne, fun g' h' => .inl h'⟩
    have Hp : Hid (∀ B, B ≠ g → (W.setCell ⟨g, k, none⟩ (.int .u8 ((bt n x).toNat : Int))).drew.heap[B]? = W.heap[B]?) := Lib.hid fun B hB => Below.heap_setCell W ⟨g, k, none⟩ _ B hB
    generalize (W.setCell ⟨g, k, none⟩ (.int .u8 ((bt n x).toNat : Int))).drew = W4 at hgr hv4 hbx4 hbn4 hbi4 hr4 hk4 hw4 Hp
    refine hK.out _ _ ⟨hbx4.cell, hbn4.cell, hbi4.cell, hv4.c2⟩ (fun _ => ?_)
    clear hK K
    refine wpAnyH_done (by kernel_rfl) ?_ _
    have ci4 := hbi4.cell
    have fi4 := hbi4.frozen
    have hkn : (k : Int) + 1 ≤ 100000001 := by omega
    have hkk : (((k + 1 : Nat) : Nat) : Int) = (k : Int) + 1 := by omega
    have hwk : IntKind.i64.wrap ((k : Int) + 1) = (k : Int) + 1 := IntWalk.i64_in _ (by omega)
    clear hcell hfroz hcellD hfrozD hS hgW
    gi_wp2_with fail
    rw [Oper.semAt_eq _ _ _ (fun c hc => by cases hc)]
    go_simp
    gi_wp2_with fail
    rw [Oper.semAt_eq _ _ _ (fun c hc => by cases hc)]
    go_simp
    gi_wp2_with fail
    rw [Oper.semAt_eq _ _ _ (fun c hc => by cases hc)]
    go_simp
    gi_wp2_with fail
    have hgr5 : W4.grownBy (W4.setCell ⟨Bi, 0, none⟩ (.int .i64 ((k : Int) + 1))) (some Bi) := grownBy_setCell2 _ _ _
    have hneb : b ≠ Bi := by omega
    refine ⟨⟨Nat.le_trans hk4.size hgr5.size, fun j o hj hj2 ho => ?_⟩, ⟨?_, ?_⟩, ⟨⟨hv4.kept hgr5 (by simpa using hneb), ?_⟩, ?_⟩, hbx4.kept hgr5 (by simp; omega), hbn4.kept hgr5 (by simp; omega), ?_⟩
    · exact (keeps_set (B := w2.heap.size) (p := ⟨Bi, 0, none⟩) (u := .int .i64 ((k : Int) + 1)) (show W4.heap[Bi]? = _ from hbi4)).same j o hj (hk4.same j o hj hj2 ho) ho
    · exact (Below.heap_setCell W4 ⟨Bi, 0, none⟩ _ _ (by have := Hsi.out; simp; omega)).trans (Hp.out _ (by have := Hsi.out; omega))
    · exact (Below.heap_setCell W4 ⟨Bi, 0, none⟩ _ _ (by have := Hsi.out; simp; omega)).trans (Hp.out _ (by have := Hsi.out; omega))
    · have hlen : (patch out i ((pre ++ [x]).map (bt n))).length = out.length := by rw [← HST.out, List.length_set, HOL.out]
      rw [hlen]
      exact hr4.kept hgr5 (.inr (by simp [Value.ownBlock]; omega))
    · exact ⟨(hgr5.os.trans hw4.os).trans hwr.os, (hgr5.tape.trans hw4.tape).trans hwr.tape, (hgr5.output.trans hw4.output).trans hwr.output, Nat.le_trans (Nat.le_trans hwr.size hw4.size) hgr5.size,
        fun j hj hjb hjs => (hgr5.block j (by have := hwr.size; have := hw4.size; omega) (by simp; omega)).trans ((hw4.block j (by have := hwr.size; omega) hjb hjs).trans (hwr.block j hj hjb hjs)), fun g' h' => .inl h'⟩
    · have hb5 := hbi4.set (.int .i64 ((k : Int) + 1))
      have e5 : ((i + (pre ++ [x]).length : Nat) : Int) = (k : Int) + 1 := by have := HK.out; simp; omega
      rw [e5]
      exact hb5
  case done =>
    rintro D ys W hD rfl ⟨⟨hh, hwr⟩, hbx, hbn, hbi⟩ hK
    gi_wp2
    refine ⟨by simp, .inl ⟨_, _, rfl, run_takeDeferred hK, ?_⟩⟩
    refine ⟨.int .i64 0, by simp [results, Try.results20, go_sem], rfl, _, hh.kept (grownBy_putObj' W D _) (fun r e => by cases e; exact ⟨_, hK, rfl⟩), ?_⟩
    exact hwr.grown (grownBy_putObj' W D _) (fun r e => by cases e; exact Nat.le_trans hw02.size hD)
  case stop =>
    rintro D c pre W _ _ h _
    exact h.elim
end Go.Proofs.Ytdklmeamhcgohaa
