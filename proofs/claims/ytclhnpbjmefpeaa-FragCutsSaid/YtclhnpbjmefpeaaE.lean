/- The iterator frag.pieces over the sizes that are told. -/
import Derived.Test.YtclhnpbjmefpeaaD
namespace Go.Proofs.Ytclhnpbjmefpeaa
open Go.RowKit Go.Shelf
attribute [local go_sem] Oper.semAt_some

/-- The sizes, one by one. -/
def gS (ss : List Int) (k : Nat) : Option Nat := (ss[k]?).map Int.toNat
theorem gS_at {ss : List Int} {k n : Nat} (h : k < ss.length) (hn : ss[k] = n) : gS ss k = some n := by
  unfold gS
  rw [List.getElem?_eq_getElem h, hn]
  rfl
theorem gS_end {ss : List Int} {k : Nat} (h : ss.length ≤ k) : gS ss k = none := by
  unfold gS
  rw [List.getElem?_eq_none h]
  rfl
def allS (ss : List Int) : Bool := ss.all sizeB
theorem allS_at {ss : List Int} (h : allS ss = true) (k : Nat) (hk : k < ss.length) : ∃ n : Nat, ss[k] = n ∧ 1 ≤ n ∧ n ≤ 65536 := by
  have := List.all_eq_true.1 h _ (List.getElem_mem hk)
  simp only [sizeB, Bool.and_eq_true, decide_eq_true_eq] at this
  exact ⟨ss[k].toNat, by omega, by omega, by omega⟩
theorem IntsAt.turns {W W' : World} {b off : Nat} {l : List Int} {Bs : List Nat} (h : IntsAt W b off l) (ht : Turns Bs W W') (hb : b < W.heap.size) (hn : b ∉ Bs) : IntsAt W' b off l := fun i hi => by
  have e : W'.cell? ⟨b, off + i, none⟩ = W.cell? ⟨b, off + i, none⟩ := by simp only [World.cell?, ht.block b hb hn]
  rw [e]
  exact h i hi
theorem IntsAt.same {W W' : World} {b off : Nat} {l : List Int} (h : IntsAt W b off l) (hk : W'.heap[b]? = W.heap[b]?) : IntsAt W' b off l := fun i hi => by
  have e : W'.cell? ⟨b, off + i, none⟩ = W.cell? ⟨b, off + i, none⟩ := by simp only [World.cell?, hk]
  rw [e]
  exact h i hi
/-- What the closure of Sizes holds: how far it is, and the sizes. -/
structure NsI (Bi Bz : Nat) (ao : Option Addr) (b off cap : Nat) (ss : List Int) (k : Nat) (W : World) : Prop where
  i : Boxed W Bi 3 (.int .i64 k)
  z : Boxed W Bz 22 (.slice ao ss.length cap)
  l : ss = [] ∨ (ao = some ⟨b, off, none⟩ ∧ IntsAt W b off ss)
theorem IntsAt.lt {W : World} {b off : Nat} {l : List Int} (h : IntsAt W b off l) (hl : l ≠ []) : b < W.heap.size :=
  World.block_lt_of_cell? W _ (h 0 (List.length_pos_iff.2 hl))
theorem NsI.kept {Bi Bz : Nat} {ao : Option Addr} {b off cap n0 B1 B2 B3 : Nat} {ss : List Int} {k : Nat} {W W' : World} (h : NsI Bi Bz ao b off cap ss k W) (hk : Kept (KP n0 B1 B2 B3) W W') (h1 : Bi < n0) (h2 : Bz < n0) (h3 : ss ≠ [] → b < n0) : NsI Bi Bz ao b off cap ss k W' :=
  ⟨(hk Bi (.inl h1)).trans h.i, (hk Bz (.inl h2)).trans h.z, by
    rcases h.l with h0 | ⟨ha, hl⟩
    · exact .inl h0
    · by_cases e : ss = []
      · exact .inl e
      · exact .inr ⟨ha, hl.same (hk b (.inl (h3 e)))⟩⟩
theorem NsI.turned {Bi Bz : Nat} {ao : Option Addr} {b off cap : Nat} {ss : List Int} {k : Nat} {W W' : World} {Bs : List Nat} (h : NsI Bi Bz ao b off cap ss k W) (ht : Turns Bs W W') (h1 : Bi ∉ Bs) (h2 : Bz ∉ Bs) (h3 : ss ≠ [] → b ∉ Bs) : NsI Bi Bz ao b off cap ss k W' :=
  ⟨Boxed.turns h.i ht h1, Boxed.turns h.z ht h2, by
    rcases h.l with h0 | ⟨ha, hl⟩
    · exact .inl h0
    · by_cases e : ss = []
      · exact .inl e
      · exact .inr ⟨ha, hl.turns ht (hl.lt e) (h3 e)⟩⟩
theorem NsI.other {Bi Bz : Nat} {ao : Option Addr} {b off cap : Nat} {ss : List Int} {k : Nat} {W : World} (h : NsI Bi Bz ao b off cap ss k W) (B : Nat) (v : Value) (h1 : Bi ≠ B) (h2 : Bz ≠ B) (h3 : ss ≠ [] → b ≠ B) : NsI Bi Bz ao b off cap ss k (W.setCell ⟨B, 0, none⟩ v) :=
  ⟨Boxed.cell_other h.i B 0 v h1, Boxed.cell_other h.z B 0 v h2, by
    rcases h.l with h0 | ⟨ha, hl⟩
    · exact .inl h0
    · by_cases e : ss = []
      · exact .inl e
      · exact .inr ⟨ha, hl.same ((grownBy_cell W ⟨B, 0, none⟩ v).block b (hl.lt e) (fun e2 => h3 e (Option.some.inj e2)))⟩⟩
theorem NsI.next {Bi Bz : Nat} {ao : Option Addr} {b off cap : Nat} {ss : List Int} {k : Nat} {W : World} (h : NsI Bi Bz ao b off cap ss k W) (m : Nat) (h2 : Bz ≠ Bi) (h3 : ss ≠ [] → b ≠ Bi) : NsI Bi Bz ao b off cap ss m (W.setCell ⟨Bi, 0, none⟩ (.int .i64 m)) :=
  ⟨Boxed.set _ h.i, Boxed.cell_other h.z Bi 0 _ h2, by
    rcases h.l with h0 | ⟨ha, hl⟩
    · exact .inl h0
    · by_cases e : ss = []
      · exact .inl e
      · exact .inr ⟨ha, hl.same ((grownBy_cell W ⟨Bi, 0, none⟩ _).block b (hl.lt e) (fun e2 => h3 e (Option.some.inj e2)))⟩⟩

set_option maxRecDepth 100000 in
set_option maxHeartbeats 8000000 in
theorem piecesSizes_in (n : Nat) (hn : 1 ≤ n) (l n0 B1 B2 B3 Bi Bz : Nat) (ao : Option Addr) (bs off cap : Nat) (h01 : n0 ≤ B1) (h12 : B1 < B2) (h23 : B2 < B3) (hBi : Bi < n0) (hBz : Bz < n0) (hiz : Bz ≠ Bi) (id : Int) (ss : List Int) (hbs : ss ≠ [] → bs < n0 ∧ bs ≠ Bi) (hss : allS ss = true) (hsl : ss.length ≤ 1000000) (body : ByteArray) (hbody : body.size ≤ 65536) (J Jx : List Pc → World → Prop)
    (hJ : Bears [B2, Bi] J)
    (hY : ∀ pre x W, J pre W → pre.length < (cutP id (gS ss) 0 body).length → YieldAt Fence.wide (n - 1) Try.prog l (pcV x) W fun e W' => ∃ r, e = .returned (.bool r) ∧ YR (KP n0 B1 B2 B3) J Jx (pre ++ [x]) W r W')
    (W : World) (hM : PiI B1 B2 B3 W id body (.func (.func 29) #[] #[.pointer (some ⟨Bi, 0, none⟩), .pointer (some ⟨Bz, 0, none⟩)])) (hN : NsI Bi Bz ao bs off cap ss 0 W) (h0 : J [] W) :
    CallsIn Fence.wide n Try.prog 44 #[.func (.yield l) #[] #[], .pointer (some ⟨B3, 0, none⟩), .pointer (some ⟨B2, 0, none⟩), .pointer (some ⟨B1, 0, none⟩)] W fun e W' => (∃ v, e = .returned v) ∧
      ((∃ ys, ys = cutP id (gS ss) 0 body ∧ J ys W') ∨ (∃ pre, pre <+: cutP id (gS ss) 0 body ∧ Jx pre W')) := by
  obtain ⟨all, hall⟩ : ∃ all, cutP id (gS ss) 0 body = all := ⟨_, rfl⟩
  rw [hall] at hY
  rw [hall]
  have HALL := Lib.hid hall
  have HM := Lib.hid hM
  have HN0 := Lib.hid hN
  have HJJ := Lib.hid hJ
  have HY := Lib.hid hY
  have HSS := Lib.hid hss
  have HBS := Lib.hid hbs
  clear hM hJ hY hN hall hss hbs
  refine callsIn_of_wp Try.func44 rfl trivial ?_ rfl
  simp only [Try.ntmps44, List.size_toArray, List.length_cons, List.length_nil, Nat.reduceAdd, Nat.reduceSub, Array.replicate_succ, Array.replicate_zero, List.push_toArray, List.append_toArray, List.nil_append, List.cons_append]
  gi_wp2
  gi_loopw [5] (fun pl wr => ∃ (k : Nat) (pre : List Pc) (b : ByteArray), pl = .int .i64 k ∧ J pre wr ∧ PiI B1 B2 B3 wr id b (.func (.func 29) #[] #[.pointer (some ⟨Bi, 0, none⟩), .pointer (some ⟨Bz, 0, none⟩)]) ∧ NsI Bi Bz ao bs off cap ss k wr ∧ k ≤ ss.length ∧ pre ++ cutP id (gS ss) k b = all ∧ k + b.size ≤ body.size)
    (fun _ wr => strBox wr B2)
  case atStart => exact ⟨0, [], body, rfl, h0, HM.out, HN0.out, Nat.zero_le _, by rw [HALL.out]; rfl, by omega⟩
  case round =>
    obtain ⟨k, pre, b, rfl, hJp, hMg, hNx, hks, hpre, hkb⟩ := hrel
    have HLEN := Lib.hid (strBox_of hMg.body)
    have c3 := hMg.next.cell
    have HP := Lib.hid hpre
    have HKB := Lib.hid hkb
    have n1i : ¬ B1 = Bi := by omega
    have n2i : ¬ B2 = Bi := by omega
    have n3i : ¬ B3 = Bi := by omega
    by_cases hkl : k < ss.length
    · obtain ⟨sz, hsz, hsz1, hsz2⟩ := allS_at HSS.out k hkl
      have hne : ss ≠ [] := fun e => by rw [e] at hkl; simp at hkl
      obtain ⟨hb0, hbi⟩ := HBS.out hne
      obtain ⟨hao, hil⟩ : ao = some ⟨bs, off, none⟩ ∧ IntsAt wr bs off ss := by
        rcases hNx.l with e | h
        · exact absurd e hne
        · exact h
      subst hao
      have NX0 := sizesNext_some Bi Bz bs off k cap ss wr hNx.i hNx.z hil (fun e => hiz e.symm) hbi hkl hsl
      rw [hsz] at NX0
      have NX := Lib.hid NX0
      have hT : Turns [B2, Bi] wr (wr.setCell ⟨Bi, 0, none⟩ (.int .i64 ((k + 1 : Nat) : Int))) := (Turns.refl _ _).set Bi 0 _ (.inl (by simp))
      have hJ1 := HJJ.out _ _ _ hJp hT
      have hM1 : PiI B1 B2 B3 (wr.setCell ⟨Bi, 0, none⟩ (.int .i64 ((k + 1 : Nat) : Int))) id b (.func (.func 29) #[] #[.pointer (some ⟨Bi, 0, none⟩), .pointer (some ⟨Bz, 0, none⟩)]) := ⟨Boxed.cell_other hMg.id Bi 0 _ n1i, Boxed.cell_other hMg.body Bi 0 _ n2i, Boxed.cell_other hMg.next Bi 0 _ n3i⟩
      have hN1 := hNx.next (k + 1) hiz (fun _ => hbi)
      have hg := gS_at hkl hsz
      obtain ⟨w1, hw1⟩ : ∃ w1, wr.setCell ⟨Bi, 0, none⟩ (.int .i64 ((k + 1 : Nat) : Int)) = w1 := ⟨_, rfl⟩
      rw [hw1] at hJ1 hM1 hN1 NX
      have HJ := Lib.hid hJ1
      have HPI := Lib.hid hM1
      have HNX := Lib.hid hN1
      have HKL := Lib.hid hkl
      have HIDX := Lib.hid (And.intro hb0 hbi)
      have c1 := hM1.id.cell
      have c2 := hM1.body.cell
      have f2 := hM1.body.frozen
      clear hJp hpre hkb hMg hNx hks hil NX0 hT hJ1 hM1 hN1 hw1 hsz hkl hne hb0 hbi
      by_cases hlt : sz < b.size
      · have e2 : decide (b.size ≤ sz) = false := decide_eq_false (by omega)
        have e3 : (0 : Int) ≤ (sz : Int) := by omega
        have e4 : (sz : Int) ≤ (b.size : Int) := by omega
        have e5 : (k : Int) ≤ 65536 := by have := HKB.out; omega
        have e6 : (0 : Int) ≤ (k : Int) := by omega
        have hcm := cut_more (id := id) (b := b) hg (by omega) hlt
        have hx1 : pre ++ [⟨id, k, true, b.extract 0 sz⟩] ++ cutP id (gS ss) (k + 1) (b.extract sz b.size) = all := by rw [← HP.out, hcm]; simp
        have HX1 := Lib.hid hx1
        have hsd := size_drop b sz
        have HSD := Lib.hid hsd
        have HLT := Lib.hid hlt
        have hl4 : pre.length < all.length := by rw [← hx1]; simp
        have hT : Turns [B2, Bi] w1 w1.drew := ⟨rfl, rfl, rfl, Nat.le_refl _, fun _ _ _ => rfl⟩
        obtain ⟨fn, tmps, assign, bdy, hy, hR⟩ := HY.out pre ⟨id, k, true, b.extract 0 sz⟩ _ (HJJ.out _ _ _ HJ.out hT) hl4
        have HR := Lib.hid hR
        clear hcm hx1 hsd hlt hl4 hR hT hg
        unfold pcV at hy
        simp only at hy
        have HYY := Lib.hid hy
        clear hy
        gi_wp2_with (refine ⟨trivial, ?_⟩; gi_at_call 29; refine (callsIn_wide.2 NX.out).mono ?_; rintro e w1 ⟨rfl, rfl⟩)
        gi_region_with (rw [HYY.out]; refine ⟨fun _ => hn, HR.out.mono ?_⟩; rintro e W5 ⟨r, rfl, h5⟩; have H5 := Lib.hid h5; clear h5)
        all_goals
         clear c1 c2 c3 f2
         cases r with
         | true =>
          obtain ⟨hJ5, hk5⟩ := H5.out.1 rfl
          have b1 : Boxed W5 B1 3 (.int .i64 id) := (hk5 B1 (.inr (.inl rfl))).trans HPI.out.id
          have b2 : Boxed W5 B2 9 (.string b) := (hk5 B2 (.inr (.inr (.inl rfl)))).trans HPI.out.body
          have b3 : Boxed W5 B3 45 (.func (.func 29) #[] #[.pointer (some ⟨Bi, 0, none⟩), .pointer (some ⟨Bz, 0, none⟩)]) := (hk5 B3 (.inr (.inr (.inr rfl)))).trans HPI.out.next
          have bn : NsI Bi Bz (some ⟨bs, off, none⟩) bs off cap ss (k + 1) W5 := NsI.kept (W := w1.drew) ⟨HNX.out.i, HNX.out.z, HNX.out.l⟩ hk5 hBi hBz (fun _ => HIDX.out.1)
          have c2 := b2.cell
          have f2 := b2.frozen
          have HB1 := Lib.hid b1
          have HB2 := Lib.hid b2
          have HB3 := Lib.hid b3
          have HBN := Lib.hid bn
          have HJ5 := Lib.hid hJ5
          clear hJ5 hk5 b1 b2 b3 bn
          gi_wp2
          have hJ6 := HJJ.out _ _ _ HJ5.out ((Turns.refl [B2, Bi] W5).set B2 0 (.string (b.extract sz b.size)) (.inl (by simp)))
          have q1 := Boxed.cell_other HB1.out B2 0 (.string (b.extract sz b.size)) (by omega)
          have q2 := Boxed.set (.string (b.extract sz b.size)) HB2.out
          have q3 := Boxed.cell_other HB3.out B2 0 (.string (b.extract sz b.size)) (by omega)
          have qn := NsI.other HBN.out B2 (.string (b.extract sz b.size)) (by omega) (by omega) (fun _ => by have := HIDX.out.1; omega)
          go_roundw
          case rel => exact ⟨k + 1, _, b.extract sz b.size, by go_num, hJ6, ⟨q1, q2, q3⟩, qn, HKL.out, HX1.out, by have := HSD.out; have := HKB.out; have := HLT.out; omega⟩
          case measure => rw [HLEN.out, strBox_of q2, HSD.out]; have := HLT.out; omega
         | false =>
          gi_wp2
          refine bodyPost_ret (results_none rfl _ _ _) rfl ?_
          exact ⟨⟨_, rfl⟩, .inr ⟨_, ⟨_, HX1.out⟩, H5.out.2 rfl⟩⟩
      · have e2 : decide (b.size ≤ sz) = true := decide_eq_true (by omega)
        have hcm := cut_last (id := id) (b := b) hg (by omega)
        have hx1 : pre ++ [⟨id, k, false, b⟩] = all := by rw [← HP.out, hcm]
        have HX1 := Lib.hid hx1
        have hl4 : pre.length < all.length := by rw [← hx1]; simp
        obtain ⟨fn, tmps, assign, bdy, hy, hR⟩ := HY.out pre ⟨id, k, false, b⟩ _ HJ.out hl4
        have HR := Lib.hid hR
        clear hcm hx1 hlt hl4 hR hg
        unfold pcV at hy
        simp only at hy
        gi_wp2_with (refine ⟨trivial, ?_⟩; gi_at_call 29; refine (callsIn_wide.2 NX.out).mono ?_; rintro e w1 ⟨rfl, rfl⟩)
        refine HR.out.mono ?_
        rintro e W5 ⟨r, rfl, h5⟩
        have H5 := Lib.hid h5
        clear h5
        gi_wp2
        refine bodyPost_ret (results_none rfl _ _ _) rfl ?_
        refine ⟨⟨_, rfl⟩, ?_⟩
        cases r with
        | true => exact .inl ⟨_, HX1.out, (H5.out.1 rfl).1⟩
        | false => exact .inr ⟨_, ⟨[], by rw [List.append_nil]; exact HX1.out⟩, H5.out.2 rfl⟩
    · obtain rfl : k = ss.length := by omega
      have NX := Lib.hid (sizesNext_none Bi Bz ss.length cap ao wr hNx.i hNx.z)
      have c1 := hMg.id.cell
      have c2 := hMg.body.cell
      have hcm := cut_none (id := id) (b := b) (gS_end (Nat.le_refl ss.length))
      have hx1 : pre ++ [⟨id, ss.length, false, b⟩] = all := by rw [← HP.out, hcm]
      have HX1 := Lib.hid hx1
      have hl4 : pre.length < all.length := by rw [← hx1]; simp
      obtain ⟨fn, tmps, assign, bdy, hy, hR⟩ := HY.out pre ⟨id, ss.length, false, b⟩ _ hJp hl4
      have HR := Lib.hid hR
      clear hcm hx1 hl4 hR hJp hpre hkb hMg hNx hks hkl
      unfold pcV at hy
      simp only at hy
      gi_wp2_with (refine ⟨trivial, ?_⟩; gi_at_call 29; refine (callsIn_wide.2 NX.out).mono ?_; rintro e w1 ⟨rfl, rfl⟩)
      refine HR.out.mono ?_
      rintro e W5 ⟨r, rfl, h5⟩
      have H5 := Lib.hid h5
      clear h5
      gi_wp2
      refine bodyPost_ret (results_none rfl _ _ _) rfl ?_
      refine ⟨⟨_, rfl⟩, ?_⟩
      cases r with
      | true => exact .inl ⟨_, HX1.out, (H5.out.1 rfl).1⟩
      | false => exact .inr ⟨_, ⟨[], by rw [List.append_nil]; exact HX1.out⟩, H5.out.2 rfl⟩

end Go.Proofs.Ytclhnpbjmefpeaa
