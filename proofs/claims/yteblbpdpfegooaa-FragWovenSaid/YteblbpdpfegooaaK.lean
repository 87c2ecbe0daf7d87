/- The contract of the closure turn of frag.Weave. -/
import Derived.Test.YteblbpdpfegooaaJ
import Derived.StillTailTactics
import Derived.Deep.RegionHeld3
import Derived.Deep.RegionLaw
import Derived.Deep.AppendLies
import Derived.RegionTactic
import Derived.Shelf.Abstract
namespace Go.Proofs.Yteblbpdpfegooaa
open Go.RowKit Go.Sort Go.Shelf

/-- The slice expression that leaves the first element out. -/
theorem cut_head (b off m c : Nat) : ∃ ad, (∀ w, (Instr.slice 23 (.slice (some ⟨b, off, none⟩) (m + 1) (c + 1)) (some (.int .i64 1)) none none).run Try.prog w = .ok (.slice ad m c) w) ∧ (c ≠ 0 → ad = some ⟨b, off + 4, none⟩) ∧ ad ≠ none := by
  refine ⟨if c + 1 = 1 then some ⟨b, off, none⟩ else some ⟨b, off + 4, none⟩, fun w => ?_, (fun h => by rw [if_neg (by omega)]), (by split <;> simp)⟩
  obtain ⟨i0, hi, _, _, _⟩ := info_parts infoPc
  rw [run_slice_l w 23 _ _ _ (by kernel_rfl) _ _ (by omega) (by omega)]
  rw [show Try.prog.elem 23 = 25 by kernel_rfl, run_sizeOf w hi, show Try.prog.cellsOf 25 = 4 by kernel_rfl]
  simp only [Result.andThen_ok, sliced]
  by_cases h : c + 1 = 1
  · rw [if_pos h, if_pos (by simpa using h)]
    simp
  · rw [if_neg h, if_neg (by simpa using h)]
    simp [Addr.add]

theorem holds_same {W W' : World} {g : Nat} {d : Array SlD} (h : Holds SlD.v W g 0 d) (hk : W'.heap[g]? = W.heap[g]?) : Holds SlD.v W' g 0 d := fun j hj => by
  obtain ⟨h1, h2⟩ := h j hj
  simp only [World.cell?, World.frozen?, hk] at h1 h2 ⊢
  exact ⟨h1, h2⟩

theorem holds_set {W : World} {g ix : Nat} {F : List SlD} {d : SlD} (h : Holds SlD.v W g 0 F.toArray) (_ : ix < F.length) : Holds SlD.v (W.setCell ⟨g, ix, none⟩ d.v) g 0 (F.set ix d).toArray := fun j hj => by
  have hj' : j < F.length := by simpa using hj
  obtain ⟨h1, h2⟩ := h j (by simpa using hj')
  rw [getElem!_pos _ j (by simpa using hj'), List.getElem_toArray] at h1
  rw [getElem!_pos _ j hj, List.getElem_toArray, List.getElem_set]
  rw [Nat.zero_add] at h1 h2 ⊢
  constructor
  · by_cases e : ix = j
    · subst e
      rw [if_pos rfl]
      exact World.cell?_setCell_same _ _ _ h1
    · rw [if_neg e]
      exact (World.cell?_setCell_other _ _ _ _ (fun e2 => e (by simp at e2))).trans h1
  · simpa using h2

/-- THE STATE OF Weave between two turns. -/
structure WvI (w : World) (BL BO BR : Nat) (ds : List SlD) (cap : Nat) (pre : List Pc) (W : World) : Prop where
  below : Below w.heap.size w W
  box : Boxed W BL 52 (.slice (some ⟨BR, 0, none⟩) ds.length cap)
  len : ds.length ≤ cap
  row : Holds SlD.v W BR 0 ds.toArray
  lt : BR < W.heap.size
  ok : ∀ d ∈ ds, OkLt w.heap.size w d
  out : ∃ sv, Boxed W BO 23 sv ∧ W.ownsRow (BO + 1) 25 4 sv pre.length (pcCells pre)

theorem tail_ok {n0 : Nat} {w : World} {b off c : Nat} {ad : Option Addr} {p : Pc} {r : List Pc} (hb : b < n0) (hp : PcsAt w b off (p :: r)) (hc : r.length ≤ c) (ha : c ≠ 0 → ad = some ⟨b, off + 4, none⟩) (hn : ad ≠ none) : OkLt n0 w ⟨ad, r, c⟩ := by
  refine ⟨hc, ?_, fun e => absurd e hn⟩
  by_cases h : c = 0
  · exact .inl (List.eq_nil_of_length_eq_zero (by simp only; omega))
  · exact .inr ⟨b, off + 4, ha h, hb, fun i hi => by
      have h := hp (i + 1) (by simp only [List.length_cons]; simp only at hi; omega)
      simp only [List.getElem_cons_succ] at h
      rw [show off + 4 + i * 4 = off + (i + 1) * 4 by omega]
      exact h⟩

set_option maxRecDepth 100000 in
set_option maxHeartbeats 4000000 in
theorem turn_no (w : World) (BL BO BR m : Nat) (hR : w.heap.size ≤ BR) (hRL : BR < BL) (hLO : BL < BO) (ds : List SlD) (cap : Nat) (pre : List Pc) (W : World) (h : WvI w BL BO BR ds cap pre W) (hd : ds.length ≤ 1000) (hF : neD ds = []) :
    Calls Try.prog 45 #[.int .i64 m, .pointer (some ⟨BL, 0, none⟩), .pointer (some ⟨BO, 0, none⟩)] W fun e W' => e = .returned (.bool false) ∧ WvI w BL BO BR [] cap pre W' := by
  have DL0 := del_any BR cap ds W h.row hd h.len
  rw [hF, List.length_nil] at DL0
  have DL := Lib.hid DL0
  have HH := Lib.hid h
  have c1 := h.box.cell
  have HF := Lib.hid hF
  clear h DL0 hF
  go_enter Try.func45, Try.ntmps45
  go_wp2_with (go_at_call 46; refine DL.out.mono ?_; rintro e w1 ⟨rfl, hd1⟩; have b1 : Boxed w1 BL 52 _ := (hd1.block BL (by omega)).trans HH.out.box; have q1 := b1.cell; have f1 := b1.frozen; have HB1 := Lib.hid b1; have HD1 := Lib.hid hd1; clear b1 hd1)
  go_ret
  refine ⟨rfl, ?_⟩
  have g := grownBy_cell w1 ⟨BL, 0, none⟩ (.slice (some ⟨BR, 0, none⟩) 0 cap)
  have hd1 := HD1.out
  have hb := HH.out.below
  have hkeep : ∀ k, k ≠ BR → k ≠ BL → k < W.heap.size → (w1.setCell ⟨BL, 0, none⟩ (.slice (some ⟨BR, 0, none⟩) 0 cap)).heap[k]? = W.heap[k]? := fun k h1 h2 h3 => (g.block k (by rw [hd1.size]; exact h3) (fun e => h2 (Option.some.inj e))).trans (hd1.block k h1)
  refine ⟨⟨g.os.trans (hd1.os.trans hb.os), g.tape.trans (hd1.tape.trans hb.tape), g.output.trans (hd1.output.trans hb.output), Nat.le_trans hb.size (Nat.le_trans (Nat.le_of_eq hd1.size.symm) g.size), fun k hk => (hkeep k (by omega) (by omega) (Nat.lt_of_lt_of_le hk hb.size)).trans (hb.block k hk)⟩, Boxed.set _ HB1.out, Nat.zero_le _, fun j hj => absurd hj (by simp), ?_, fun d hd => absurd hd (by simp), ?_⟩
  · have := HH.out.lt; have h1 := hd1.size; have h2 := g.size; omega
  · obtain ⟨sv, h1, h2⟩ := HH.out.out
    refine ⟨sv, (hkeep BO (by omega) (by omega) h1.lt).trans h1, ?_⟩
    refine ⟨h2.1, ?_⟩
    rcases h2.2 with hn | ⟨gg, cap', cur, rfl, e1, e2, rest⟩
    · exact .inl hn
    · exact .inr ⟨gg, cap', cur, rfl, e1, (hkeep gg (by omega) (by omega) (Array.getElem?_eq_some_iff.1 e2).1).trans e2, rest⟩

set_option maxRecDepth 100000 in
set_option maxHeartbeats 4000000 in
theorem turn_yes (w : World) (BL BO BR m : Nat) (hR : w.heap.size ≤ BR) (hRL : BR < BL) (hLO : BL < BO) (hm : (m : Int) ≤ 9223372036854775807) (ds : List SlD) (cap : Nat) (pre : List Pc) (W : World) (h : WvI w BL BO BR ds cap pre W) (hd : ds.length ≤ 1000) (hpre : pre.length ≤ 100000) (d : SlD) (p : Pc) (r : List Pc) (hdl : d.l = p :: r) (hat : (neD ds)[m % (neD ds).length]? = some d) :
    Calls Try.prog 45 #[.int .i64 m, .pointer (some ⟨BL, 0, none⟩), .pointer (some ⟨BO, 0, none⟩)] W fun e W' => e = .returned (.bool true) ∧ ∃ ad c, WvI w BL BO BR ((neD ds).set (m % (neD ds).length) ⟨ad, r, c⟩) cap (pre ++ [p]) W' := by
  have DL0 := del_any BR cap ds W h.row hd h.len
  have hFm : ∀ x ∈ neD ds, x ∈ ds := fun x hx => (List.mem_filter.1 hx).1
  have hFl : (neD ds).length ≤ ds.length := List.length_filter_le _ _
  obtain ⟨F, hF⟩ : ∃ F, neD ds = F := ⟨_, rfl⟩
  rw [hF] at DL0 hFm hFl hat
  rw [hF]
  obtain ⟨hil, hix⟩ := List.getElem?_eq_some_iff.1 hat
  have hdm : d ∈ ds := hFm d (by rw [← hix]; exact List.getElem_mem hil)
  obtain ⟨hlen, hrow, _⟩ := h.ok d hdm
  obtain ⟨da, dl, dc⟩ := d
  simp only at hdl hlen hrow
  subst hdl
  obtain ⟨b, off, rfl, hb0, hpc⟩ := hrow.resolve_left (by simp)
  obtain ⟨c, rfl⟩ : ∃ c, dc = c + 1 := ⟨dc - 1, by simp at hlen; omega⟩
  obtain ⟨ad, sl1, had, hadn⟩ := cut_head b off r.length c
  obtain ⟨L, hL⟩ : ∃ L, F.length = L := ⟨_, rfl⟩
  rw [hL] at DL0 hFl hat hil
  obtain ⟨ix, hixn⟩ : ∃ ix, m % L = ix := ⟨_, rfl⟩
  rw [hL, hixn]
  rw [hixn] at hat hil
  obtain ⟨sv, hob, hoo⟩ := h.out
  obtain ⟨o0, oc, rfl⟩ := sl_len hoo
  have DL := Lib.hid DL0
  have HH := Lib.hid h
  have HOO := Lib.hid hoo
  have HOB := Lib.hid hob
  have HFM := Lib.hid hFm
  have HPC := Lib.hid hpc
  have HAD := Lib.hid had
  have HADN := Lib.hid hadn
  have HLEN := Lib.hid hlen
  have HL := Lib.hid hL
  have HAT := Lib.hid hat
  have HFL := Lib.hid hFl
  have HIXN := Lib.hid hixn
  have HF := Lib.hid hF
  have HAT0 := Lib.hid hil
  have c1 := h.box.cell
  have e0 : (0 : Int) < (L : Int) := by omega
  have e1 : ((L : Int) == 0) = false := by simp; omega
  have e2 : (ix : Int) < (L : Int) := by omega
  have e3 : (0 : Int) ≤ (ix : Int) := by omega
  have e4 : (0 : Int) ≤ (m : Int) := by omega
  clear h DL0 hF hFm hdm hlen hrow hpc had hadn hL hat hFl hixn hoo hob
  go_enter Try.func45, Try.ntmps45
  go_wp2_with (go_at_call 46; refine DL.out.mono ?_; rintro e w1 ⟨rfl, hd1⟩; have b1 : Boxed w1 BL 52 _ := (hd1.block BL (by omega)).trans HH.out.box; have q1 := b1.cell; have f1 := b1.frozen; have HB1 := Lib.hid b1; have HD1 := Lib.hid hd1; clear b1 hd1)
  rw [show ((m : Int) % (L : Int)) = (ix : Int) by rw [← HIXN.out]; exact (Int.natCast_emod m L).symm]
  have g := grownBy_cell w1 ⟨BL, 0, none⟩ (.slice (some ⟨BR, 0, none⟩) L cap)
  have hd1 := HD1.out
  have hb := HH.out.below
  have hkeep : ∀ k, k ≠ BR → k ≠ BL → k < W.heap.size → (w1.setCell ⟨BL, 0, none⟩ (.slice (some ⟨BR, 0, none⟩) L cap)).heap[k]? = W.heap[k]? := fun k h1 h2 h3 => (g.block k (by rw [hd1.size]; exact h3) (fun e => h2 (Option.some.inj e))).trans (hd1.block k h1)
  have hbr : (w1.setCell ⟨BL, 0, none⟩ (.slice (some ⟨BR, 0, none⟩) L cap)).heap[BR]? = w1.heap[BR]? := g.block BR (by rw [hd1.size]; exact HH.out.lt) (fun e => by have h9 : BR = BL := Option.some.inj e; omega)
  have hxb := Boxed.set (.slice (some ⟨BR, 0, none⟩) L cap) HB1.out
  obtain ⟨w2, hw2⟩ : ∃ w2, w1.setCell ⟨BL, 0, none⟩ (.slice (some ⟨BR, 0, none⟩) L cap) = w2 := ⟨_, rfl⟩
  rw [hw2] at g hkeep hbr hxb ⊢
  have hsz2 : W.heap.size ≤ w2.heap.size := by have := g.size; have := hd1.size; omega
  have hb2 : Below w.heap.size w w2 := ⟨g.os.trans (hd1.os.trans hb.os), g.tape.trans (hd1.tape.trans hb.tape), g.output.trans (hd1.output.trans hb.output), Nat.le_trans hb.size hsz2, fun k hk => (hkeep k (by omega) (by omega) (Nat.lt_of_lt_of_le hk hb.size)).trans (hb.block k hk)⟩
  have hrow2 : Holds SlD.v w2 BR 0 F.toArray := by
    have hf := hd1.row
    rw [HF.out] at hf
    exact holds_same hf hbr
  have a0 := (hrow2 ix (by simpa [HL.out] using HAT0.out)).1
  rw [Nat.zero_add, getElem!_pos _ ix (by simpa [HL.out] using HAT0.out), List.getElem_toArray, (List.getElem?_eq_some_iff.1 HAT.out).2] at a0
  unfold SlD.v at a0
  simp only [List.length_cons] at a0
  have a1 := hxb.cell
  have hob2 : Boxed w2 BO 23 (.slice o0 pre.length oc) := (hkeep BO (by omega) (by omega) HOB.out.lt).trans HOB.out
  have a2 := hob2.cell
  have a3 := hob2.frozen
  have hoo2 : w2.ownsRow (BO + 1) 25 4 (.slice o0 pre.length oc) pre.length (pcCells pre) := by
    refine ⟨HOO.out.1, ?_⟩
    rcases HOO.out.2 with hn | ⟨gg, cap', cur, e1, e2, e3, rest⟩
    · exact .inl hn
    · exact .inr ⟨gg, cap', cur, e1, e2, (hkeep gg (by omega) (by omega) (Array.getElem?_eq_some_iff.1 e3).1).trans e3, rest⟩
  obtain ⟨p0, p1, p2, p3⟩ := (HPC.out.below hb2 hb0) 0 (by simp)
  simp only [List.getElem_cons_zero, Nat.zero_mul, Nat.add_zero] at p0 p1 p2 p3
  obtain ⟨pi, pp, pm, pb⟩ := p
  simp only at p0 p1 p2 p3
  have e5 : (0 : Int) < (r.length : Int) + 1 := by omega
  have HHK := Lib.hid hkeep
  have HB2 := Lib.hid hb2
  have HR2 := Lib.hid hrow2
  have HXB := Lib.hid hxb
  have HOB2 := Lib.hid hob2
  have HOO2 := Lib.hid hoo2
  have HSZ := Lib.hid hsz2
  obtain ⟨i0, hi, hz0, hz1, hz2⟩ := info_parts infoPc
  clear g hd1 hb hkeep hbr hxb hw2 hsz2 hb2 hrow2 hob2 hoo2 q1 f1 c1
  have HPR := Lib.hid hpre
  have HK3 : Hid (∀ w3 : World, (w2.alloc (Obj.cells #[Value.int .i64 pi, Value.int .i64 pp, Value.bool pm, Value.string pb] 25)).grownBy w3 (Value.slice o0 pre.length oc).ownBlock → ∀ k i, k ≤ BO → w3.cell? ⟨k, i, none⟩ = w2.cell? ⟨k, i, none⟩) := Lib.hid fun w3 hg k i hk => by
    have hlt := HOB2.out.lt
    have h1 := hg.block k (by simp; omega) (fun e => by have := (HOO2.out.lt _ e.symm).1; omega)
    have h2 : (w2.alloc (Obj.cells #[Value.int .i64 pi, Value.int .i64 pp, Value.bool pm, Value.string pb] 25)).heap[k]? = w2.heap[k]? := Below.heap_alloc _ _ _ (by omega)
    simp only [World.cell?, h1, h2]
  have HA0 := Lib.hid a0
  have HA1 := Lib.hid a1
  have HP4 := Lib.hid (And.intro p0 (And.intro p1 (And.intro p2 p3)))
  have hbo : b ≤ BO := by omega
  have ltO := HOB2.out.lt
  have nBO : ¬ BO = w2.heap.size := by omega
  have nBL : ¬ BL = w2.heap.size := by omega
  have nBR : ¬ BR = w2.heap.size := by omega
  have nb : ¬ b = w2.heap.size := by omega
  have ca2 : (w2.alloc (Obj.cells #[Value.int .i64 pi, Value.int .i64 pp, Value.bool pm, Value.string pb] 25)).cell? ⟨BO, 0, none⟩ = some (.slice o0 pre.length oc) := (((Below.refl w2.heap.size w2).alloc (Nat.le_refl _) _).cell (p := ⟨BO, 0, none⟩) ltO).trans a2
  clear ltO
  go_region_law (first | (refine step_append_lies _ (by rfl) _ _ 23 (by rfl) (BO + 1) 25 i0 (.agg #[.int .i64 0, .int .i64 0, .bool false, .string ⟨#[]⟩]) 4 40 under24 hi hz0 hz1 hz2 (by rfl) (by decide) (.slice o0 pre.length oc) pre.length (pcCells pre) (by rfl) (by exact HOO2.out.alloc (Obj.cells #[Value.int .i64 pi, Value.int .i64 pp, Value.bool pm, Value.string pb] 25)) ⟨w2.heap.size, 0, none⟩ 1 1 [.int .i64 pi, .int .i64 pp, .bool pm, .string pb] (by rfl) (by rfl) (by exact cell_pc_new (heap_alloc_new w2 _)) (by simp [Value.oneCell']) (by decide) (by have := HPR.out; unfold maxLen; omega) (by have := HPR.out; omega) (by have := HOB2.out.lt; simp; omega) (w2.heap.size + 1) (by simp) ?_; intro g cap3 w3 hown hgrow hat hlt3; have hg3 : (w2.alloc (Obj.cells #[Value.int .i64 pi, Value.int .i64 pp, Value.bool pm, Value.string pb] 25)).grownBy w3 (Value.slice o0 pre.length oc).ownBlock := ⟨hgrow.os, hgrow.tape, hgrow.output, hgrow.size, hgrow.block⟩; have bo3 : Boxed w3 BO 23 (.slice o0 pre.length oc) := Boxed.kept (HOB2.out.alloc _) hg3 (fun e => by have := (HOO2.out.lt _ e.symm).1; omega); have r2 := bo3.cell; have rf := bo3.frozen; have r0 := (HK3.out w3 hg3 BR ix (by omega)).trans HA0.out; have r1 := (HK3.out w3 hg3 BL 0 (by omega)).trans HA1.out; have s0 := (HK3.out w3 hg3 b off hbo).trans HP4.out.1; have s1 := (HK3.out w3 hg3 b (off + 1) hbo).trans HP4.out.2.1; have s2 := (HK3.out w3 hg3 b (off + 2) hbo).trans HP4.out.2.2.1; have s3 := (HK3.out w3 hg3 b (off + 3) hbo).trans HP4.out.2.2.2; have HG3 := Lib.hid hg3; have HO3 := Lib.hid hown; have HBO3 := Lib.hid bo3; clear hown hgrow hat hlt3 hg3 bo3))
  all_goals
    have gg := HG3.out
    have g4 := grownBy_cell w3 ⟨BO, 0, none⟩ (.slice (some ⟨g, 0, none⟩) (pre.length + 1) cap3)
    have hgo := (HO3.out.lt g rfl).1
    have k3 : ∀ k, k ≤ BO → w3.heap[k]? = w2.heap[k]? := fun k hk => (gg.block k (by have := HOB2.out.lt; simp; omega) (fun e => by have := (HOO2.out.lt _ e.symm).1; omega)).trans (Below.heap_alloc _ _ _ (by have := HOB2.out.lt; omega))
    have s3z : w2.heap.size + 1 ≤ w3.heap.size := by have := gg.size; simpa using this
    obtain ⟨w4, hw4⟩ : ∃ w4, w3.setCell ⟨BO, 0, none⟩ (.slice (some ⟨g, 0, none⟩) (pre.length + 1) cap3) = w4 := ⟨_, rfl⟩
    have bo4 : Boxed w4 BO 23 (.slice (some ⟨g, 0, none⟩) (pre.length + 1) cap3) := hw4 ▸ Boxed.set _ HBO3.out
    rw [hw4] at g4 ⊢
    have k4 : ∀ k, k < BO → w4.heap[k]? = w2.heap[k]? := fun k hk => (g4.block k (by have := HOB2.out.lt; omega) (fun e => by have h9 : k = BO := Option.some.inj e; omega)).trans (k3 k (by omega))
    have bl4 : Boxed w4 BL 52 (.slice (some ⟨BR, 0, none⟩) L cap) := (k4 BL (by omega)).trans HXB.out
    have row4 : Holds SlD.v w4 BR 0 F.toArray := holds_same HR2.out (k4 BR (by omega))
    have own4 : w4.ownsRow (BO + 1) 25 4 (.slice (some ⟨g, 0, none⟩) (pre.length + 1) cap3) (pre.length + 1) (pcCells pre ++ [.int .i64 pi, .int .i64 pp, .bool pm, .string pb]) := HO3.out.kept g4 (.inr fun e => by have h9 : g = BO := Option.some.inj e; omega)
    have t1 := bl4.cell
    have t2 := row4 ix (by simpa [HL.out] using HAT0.out)
    rw [Nat.zero_add, getElem!_pos _ ix (by simpa [HL.out] using HAT0.out), List.getElem_toArray, (List.getElem?_eq_some_iff.1 HAT.out).2] at t2
    unfold SlD.v at t2
    simp only [List.length_cons] at t2
    obtain ⟨t2, t3⟩ := t2
    have HGG := Lib.hid gg
    have HG4 := Lib.hid g4
    have HK4 := Lib.hid k4
    have HS3 := Lib.hid s3z
    have HBO4 := Lib.hid bo4
    have HBL4 := Lib.hid bl4
    have HROW4 := Lib.hid row4
    have HOWN4 := Lib.hid own4
    have HGO := Lib.hid hgo
    clear gg g4 k3 s3z hw4 bo4 k4 bl4 row4 own4 hgo
    go_wp2
    go_still_tail 8, (by kernel_rfl)
    change wpList _ _ _ _ _ w4.drew
    go_wp2
    go_ret
    refine ⟨rfl, ad, c, ?_⟩
    have g5 := grownBy_cell w4 ⟨BR, ix, none⟩ (.slice ad r.length c)
    have h2 := HB2.out
    have hk5 : ∀ k, k < w.heap.size → (w4.setCell ⟨BR, ix, none⟩ (.slice ad r.length c)).heap[k]? = w2.heap[k]? := fun k hk => (g5.block k (by have := HS3.out; have := HG4.out.size; have := h2.size; omega) (fun e => by have h9 : k = BR := Option.some.inj e; omega)).trans (HK4.out k (by omega))
    have hL5 : (F.set ix (⟨ad, r, c⟩ : SlD)).length = L := by rw [List.length_set]; exact HL.out
    refine ⟨⟨g5.os.trans (HG4.out.os.trans (HGG.out.os.trans h2.os)), g5.tape.trans (HG4.out.tape.trans (HGG.out.tape.trans h2.tape)), g5.output.trans (HG4.out.output.trans (HGG.out.output.trans h2.output)), ?_, fun k hk => (hk5 k hk).trans (h2.block k hk)⟩, ?_, ?_, ?_, ?_, ?_, ?_⟩
    · exact Nat.le_trans h2.size (by have := HS3.out; have := HG4.out.size; have h9 := g5.size; exact Nat.le_trans (by omega) h9)
    · rw [hL5]; exact Boxed.cell_other HBL4.out BR ix _ (by omega)
    · rw [hL5]; have := HFL.out; have := HH.out.len; omega
    · exact holds_set (d := ⟨ad, r, c⟩) HROW4.out (by rw [HL.out]; exact HAT0.out)
    · have h9 := g5.size; exact Nat.lt_of_lt_of_le (by have := HH.out.lt; have := HSZ.out; have := HS3.out; have := HG4.out.size; omega) h9
    · intro x hx
      rcases List.mem_or_eq_of_mem_set hx with h8 | h8
      · exact HH.out.ok x (HFM.out x h8)
      · rw [h8]; exact tail_ok hb0 HPC.out (by have := HLEN.out; simp at this; omega) HAD.out HADN.out
    · refine ⟨_, Boxed.cell_other HBO4.out BR ix _ (by omega), ?_⟩
      have := HOWN4.out.kept g5 (.inr fun e => by have h9 : g = BR := Option.some.inj e; have := HGO.out; omega)
      rw [pcCells_snoc, List.length_append]
      exact this

end Go.Proofs.Yteblbpdpfegooaa
