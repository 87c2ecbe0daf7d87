/-
  PROVED HERE: the law CdrOrders returns true where its third number picks the size 2; what the walks for the sizes 4 and 8 share with it.
-/
import Derived.Test.YtdklmeamhcgohaaN
import Derived.Deep.CutRange
import Derived.BigRegion
namespace Go.Proofs.Ytdklmeamhcgohaa
open Go.RowKit

/-- The bytes behind the padding. -/
theorem tail_at (p : Nat) (l : List UInt8) : (⟨(List.replicate p (0 : UInt8) ++ l).toArray⟩ : ByteArray).extract p (p + l.length) = ⟨l.toArray⟩ := by
  apply ByteArray.ext
  rw [ByteArray.data_extract]
  apply Array.ext'
  simp

theorem swap_tail (n : Int) (k : Nat) (hk : k = 2 ∨ k = 4 ∨ k = 8) : swS ⟨(numB n true k).toArray⟩ k = ⟨(numB n false k).toArray⟩ ∧ swE ⟨(numB n true k).toArray⟩ k = 0 := by
  have hz : szB k = true := (szB_iff k).2 (by omega)
  have hl : (⟨(numB n true k).toArray⟩ : ByteArray).size = k := by
    show (numB n true k).toArray.size = k
    simp [numB, shs_length]
  have hd : (((⟨(numB n true k).toArray⟩ : ByteArray).size : Nat) : Int) % (k : Int) = 0 := by rw [hl]; exact Int.emod_self
  constructor
  · rw [swS, if_pos hz, if_pos hd]
    rcases hk with rfl | rfl | rfl
    · exact congrArg (fun l => (⟨List.toArray l⟩ : ByteArray)) (sw2 n)
    · exact congrArg (fun l => (⟨List.toArray l⟩ : ByteArray)) (sw4 n)
    · exact congrArg (fun l => (⟨List.toArray l⟩ : ByteArray)) (sw8 n)
  · rw [swE, if_pos hz, if_pos hd]

theorem Holds.drew {W : World} {b : Nat} {big : Bool} {a : Int} {sv : Value} {out : List UInt8} (h : Holds W b big a sv out) : Holds W.drew b big a sv out := h

/-- The act's block, cell by cell. -/
structure ActAt (W : World) (g : Nat) (k n m : Int) (s : ByteArray) : Prop where
  c0 : W.cell? ⟨g, 0, none⟩ = some (.int .i64 k)
  c1 : W.cell? ⟨g, 1, none⟩ = some (.int .i64 n)
  c2 : W.cell? ⟨g, 2, none⟩ = some (.int .i64 m)
  c3 : W.cell? ⟨g, 3, none⟩ = some (.string s)

theorem ActAt.of {W : World} {g : Nat} {k n m : Int} {s : ByteArray} (h : W.heap[g]? = some (actO k n m s)) : ActAt W g k n m s := by
  constructor <;> simp [World.cell?, h, actO]

set_option maxRecDepth 100000 in
set_option maxHeartbeats 800000 in
theorem walk6_2 (a0 a1 a2 : Int) (w : World) (hj : (IntKind.u64.wrap a2).tmod 3 = 0) :
    Calls Try.prog 6 #[.int .i64 a0, .int .i64 a1, .int .i64 a2] w fun e w' => e = .returned (.bool true) ∧ Below w.heap.size w w' := by
  have hix : ∀ w, (Instr.index 50 (.agg #[.int .i64 2, .int .i64 3, .int .i64 4]) (.int .u64 0)).run Try.prog w = .ok (.int .i64 2) w := fun _ => by kernel_rfl
  have hat := atN_bd a0
  obtain ⟨a, hav⟩ : ∃ a, atN a0 = a := ⟨_, rfl⟩
  rw [hav] at hat
  obtain ⟨ha, ha2⟩ := hat
  obtain ⟨p, hp⟩ : ∃ p : Nat, padN a ((2 : Nat) : Int) = p := ⟨(padN a ((2 : Nat) : Int)).toNat, by have := padN_bd a ((2 : Nat) : Int) (by omega); omega⟩
  obtain ⟨f, hf⟩ : ∃ f, fitsN 2 a1 = f := ⟨_, rfl⟩
  have HP := Lib.hid hp
  have HF := Lib.hid hf
  have HA := Lib.hid hav
  clear hp hf hav
  go_enter Try.func6, Try.ntmps6
  go_wp2_with (go_at_call 11; (fail_if_success (have := hb1)); refine (newWriter_any _ _ _).mono ?_; rintro e w1 ⟨b1, rfl, hb1, ha1, hbe1⟩)
  refine (newWriter_any false a0 w1).mono ?_
  rintro e w2 ⟨b2, rfl, hb2, ha2', hbe2⟩
  rw [HA.out] at ha1 ha2'
  have hx0 := ((Below.refl w.heap.size w).alloc (Nat.le_refl _) (Obj.cells #[Value.int IntKind.i64 2, Value.int IntKind.i64 4, Value.int IntKind.i64 8] 50))
  have m1 := NewW.made (W0 := w) ha1 (Nat.le_trans hx0.size hb1) (hx0.trans (hbe1.mono hx0.size))
  have n1 := NewW.mk (m1.holds.older hbe2 (Nat.le_refl _)) m1.lo m1.own (m1.below.trans (hbe2.mono m1.below.size))
  have n2 := NewW.made (W0 := w) ha2' (Nat.le_trans m1.below.size hb2) n1.below
  have hne : b2 ≠ b1 := Nat.ne_of_gt (Nat.lt_of_lt_of_le m1.holds.1.lt hb2)
  have N1 := Lib.hid n1
  have N2 := Lib.hid n2
  clear m1 n1 n2 hbe2 ha1 ha2' hbe1 hb1 hb2 hx0
  go_wp2_with fail
  have hg := heap_alloc_new w2 (Obj.cells #[Value.int IntKind.i64 2, Value.int IntKind.i64 a1, Value.int IntKind.i64 0, Value.string ⟨#[]⟩] 30)
  have hh1 := N1.out.holds.alloc (Obj.cells #[Value.int IntKind.i64 2, Value.int IntKind.i64 a1, Value.int IntKind.i64 0, Value.string ⟨#[]⟩] 30)
  have hh2 := N2.out.holds.alloc (Obj.cells #[Value.int IntKind.i64 2, Value.int IntKind.i64 a1, Value.int IntKind.i64 0, Value.string ⟨#[]⟩] 30)
  have hbl := N1.out.below.alloc N1.out.below.size (Obj.cells #[Value.int IntKind.i64 2, Value.int IntKind.i64 a1, Value.int IntKind.i64 0, Value.string ⟨#[]⟩] 30)
  have hg1 : w2.heap.size ≠ b1 := Nat.ne_of_gt N1.out.holds.1.lt
  generalize w2.alloc (Obj.cells #[Value.int IntKind.i64 2, Value.int IntKind.i64 a1, Value.int IntKind.i64 0, Value.string ⟨#[]⟩] 30) = w3 at hg hh1 hh2 hbl
  have M1 := Lib.hid (NewW.mk hh1 N1.out.lo N1.out.own hbl)
  have M2 := Lib.hid (NewW.mk hh2 N2.out.lo N2.out.own hbl)
  clear hh1 hh2 hbl N1 N2
  generalize w2.heap.size = g at hg hg1
  have GA := Lib.hid (show w3.heap[g]? = some (actO 2 a1 0 ⟨#[]⟩) from hg)
  obtain ⟨x0, x1, x2, x3⟩ := ActAt.of hg
  clear hg
  go_cut [12, 13] from 35 to 40 (fun c d wx => c = .int .i64 (ordC f) ∧ d = .int .i64 (ordC f) ∧ ∃ svA svB, NewW w wx b1 true a svA (ordOut f p (numB a1 true 2)) ∧ NewW w wx b2 false a svB (ordOut f p (numB a1 false 2)))
  case first =>
    go_region_with (first | (go_at_call 13; (fail_if_success (have := hA)); refine (ord_w2 b1 true a a1 _ M1.out.holds.drew ha ha2 p HP.out f HF.out).mono ?_; rintro e w4 ⟨c, rfl, rfl, svA, hA, hwA⟩; have hgw : w4.heap[g]? = some (actO 2 a1 0 ⟨#[]⟩) := (hwA.block g (Array.getElem?_eq_some_iff.1 GA.out).1 hg1 (by simp [Value.ownBlock])).trans GA.out; obtain ⟨y0, y1, y2, y3⟩ := ActAt.of hgw; clear hgw) | (go_at_call 13; refine (ord_w2 b2 false a a1 _ (M2.out.holds.drew.other M1.out.holds.drew hwA hne (by simp [Value.ownBlock])) ha ha2 p HP.out f HF.out).mono ?_; rintro e w5 ⟨c, rfl, rfl, svB, hB, hwB⟩))
    all_goals (go_wp2_with fail; go_meet; have P1 := (NewW.mk M1.out.holds.drew M1.out.lo M1.out.own M1.out.below.drew).wrote hA hwA; have P2 := NewW.mk (M2.out.holds.drew.other M1.out.holds.drew hwA hne (by simp [Value.ownBlock])) M2.out.lo M2.out.own P1.below; have P3 := P2.wrote hB hwB; exact ⟨rfl, rfl, svA, svB, NewW.mk (hA.other P2.holds hwB hne.symm (fun _ _ => by simp [Value.ownBlock])) P1.lo P1.own P3.below, P3⟩)
  case rest =>
    obtain ⟨rfl, rfl, svA, svB, R1, R2⟩ := hcut
    have RA := Lib.hid R1
    have RB := Lib.hid R2
    clear R1 R2 M1 M2 x0 x1 x2 x3 GA
    cases f
    · have RA : Hid (NewW w wc b1 true a svA []) := RA
      have RB : Hid (NewW w wc b2 false a svB []) := RB
      rw [show ordC false = 7 from rfl]
      go_wp2_with (go_at_call 17; (fail_if_success (have := k1)); refine (all_any b1 true a svA _ _ RA.out.holds).mono ?_; rintro e w6 ⟨rfl, rfl⟩; have k1 := true)
      refine (all_any b2 false a svB _ _ RB.out.holds).mono ?_
      rintro e w6 ⟨rfl, rfl⟩
      go_wp2_with (go_at_call 17; refine (all_any b1 true a svA _ _ RA.out.holds).mono ?_; rintro e w6 ⟨rfl, rfl⟩)
      refine (awake_any wc).mono ?_
      rintro e w7 ⟨rfl, hb7⟩
      have B7 := Lib.hid hb7
      clear hb7
      go_wp2
      go_ret
      exact ⟨rfl, RA.out.below.trans (B7.out.mono RA.out.below.size)⟩
    · have RA : Hid (NewW w wc b1 true a svA (List.replicate p 0 ++ numB a1 true 2)) := RA
      have RB : Hid (NewW w wc b2 false a svB (List.replicate p 0 ++ numB a1 false 2)) := RB
      rw [show ordC true = 0 from rfl]
      obtain ⟨oA, hoA⟩ : ∃ oA, List.replicate p (0 : UInt8) ++ numB a1 true 2 = oA := ⟨_, rfl⟩
      obtain ⟨oB, hoB⟩ : ∃ oB, List.replicate p (0 : UInt8) ++ numB a1 false 2 = oB := ⟨_, rfl⟩
      have hlA : oA.length = p + 2 := by rw [← hoA]; simp [numB, shs_length]
      have hlB : oB.length = p + 2 := by rw [← hoB]; simp [numB, shs_length]
      rw [hoA] at RA
      rw [hoB] at RB
      have sA : (⟨oA.toArray⟩ : ByteArray).size = p + 2 := hlA
      have sB : (⟨oB.toArray⟩ : ByteArray).size = p + 2 := hlB
      have HoA := Lib.hid hoA
      have HoB := Lib.hid hoB
      have HlA := Lib.hid hlA
      have HlB := Lib.hid hlB
      clear hoA hoB hlA hlB
      obtain ⟨tA, htA⟩ : ∃ t, (⟨oA.toArray⟩ : ByteArray) = t := ⟨_, rfl⟩
      obtain ⟨tB, htB⟩ : ∃ t, (⟨oB.toArray⟩ : ByteArray) = t := ⟨_, rfl⟩
      have CA := Lib.hid (all_any b1 true a svA _ _ RA.out.holds)
      have CB := Lib.hid (all_any b2 false a svB _ _ RB.out.holds)
      rw [htA] at sA CA
      rw [htB] at sB CB
      have HtA := Lib.hid htA
      have HtB := Lib.hid htB
      clear htA htB
      have hp8 : p < 8 := by have := padN_bd a ((2 : Nat) : Int) (by omega); have := HP.out; omega
      obtain ⟨ao, cap, hsv⟩ := RA.out.holds.form
      have PL := Lib.hid fun (W : World) (hW : Below wc.heap.size wc W) => place_any b1 true a ao oA.length cap W (hsv ▸ (RA.out.holds.older hW (Nat.le_refl _)).1) ha ha2 (by have := HlA.out; omega)
      rw [HlA.out] at PL
      clear hsv
      obtain ⟨c, hc⟩ : ∃ c : Int, a + ((p + 2 : Nat) : Int) = c := ⟨_, rfl⟩
      have hc1 : (c - 2) % 2 = 0 := by have h := HP.out; unfold padN at h; omega
      have hc2 : 0 ≤ c - 2 := by omega
      have hc4 : (c - 2).tmod 2 = 0 := by rw [Int.tmod_eq_emod_of_nonneg hc2]; exact hc1
      have hc3 : c ≤ 100 := by omega
      rw [hc] at PL
      clear hc
      obtain ⟨xA, hxA⟩ : ∃ x, tA.extract p (p + 2) = x := ⟨_, rfl⟩
      obtain ⟨xB, hxB⟩ : ∃ x, tB.extract p (p + 2) = x := ⟨_, rfl⟩
      have eA : xA = ⟨(numB a1 true 2).toArray⟩ := by rw [← hxA, ← HtA.out, ← HoA.out]; exact tail_at p (numB a1 true 2)
      have eB : xB = ⟨(numB a1 false 2).toArray⟩ := by rw [← hxB, ← HtB.out, ← HoB.out]; exact tail_at p (numB a1 false 2)
      have hsx : xA.size ≤ 2000 := by rw [eA]; show (numB a1 true 2).toArray.size ≤ 2000; simp [numB, shs_length]
      have SW := Lib.hid (swap33 xA ((2 : Nat) : Int) wc hsx)
      have hst := swap_tail a1 2 (.inl rfl)
      rw [← eA, ← eB] at hst
      rw [hst.1, hst.2] at SW
      clear hst eA eB hsx
      go_wp2_with (go_at_call 17; (fail_if_success (have := k1)); refine CA.out.mono ?_; rintro e w6 ⟨rfl, rfl⟩; have k1 := true)
      refine CB.out.mono ?_
      rintro e w6 ⟨rfl, rfl⟩
      go_wp2_with (go_at_call 17; (fail_if_success (have := k2)); refine CA.out.mono ?_; rintro e w6 ⟨rfl, rfl⟩; have k2 := true)
      refine CB.out.mono ?_
      rintro e w6 ⟨rfl, rfl⟩
      go_wp2_with (go_at_call 33; refine SW.out.mono ?_; rintro e w7 ⟨rfl, hb7⟩; have B7 := Lib.hid hb7; clear hb7)
      refine (PL.out _ B7.out).mono ?_
      rintro e w8 ⟨rfl, nq, rfl⟩
      go_wp2_with (go_at_call 10; refine (awake_any _).mono ?_; rintro e w9 ⟨rfl, hb9⟩; have B9 := Lib.hid hb9; clear hb9)
      go_ret
      refine ⟨rfl, ?_⟩
      have b1' : Below w.heap.size w w7 := RA.out.below.trans (B7.out.mono RA.out.below.size)
      have b2' : Below w.heap.size w (w7.drewN nq) := b1'.trans ⟨rfl, rfl, rfl, Nat.le_refl _, fun _ _ => rfl⟩
      exact b2'.trans (B9.out.mono b2'.size)
end Go.Proofs.Ytdklmeamhcgohaa
