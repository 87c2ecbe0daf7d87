/- The contracts of the reference's gathered, Over and Effective. -/
import Derived.Test.YtladjkkkhomngaaDoorTe
import Derived.Laws.AppendOwnNone
namespace Go.Proofs.YtladjkkkhomngaaDoor
set_option maxRecDepth 8000
open Go.RowKit Go.Sort Go.BigFrame

/-- From the m-th policy on, none is of a kind. -/
def noFrom (l : List PolD) (q : Int) (m : Nat) : Prop := ∀ i, m ≤ i → ∀ h : i < l.length, ¬ l[i].k = q
theorem lastV_at {l : List PolD} {q : Int} {i : Nat} (h : i < l.length) (hn : noFrom l q (i + 1)) (hk : l[i].k = q) : lastV l q = some l[i].v := by
  unfold lastV
  have hj : l.length - 1 - i < l.reverse.length := by rw [List.length_reverse]; omega
  have e : l.reverse[l.length - 1 - i]'hj = l[i] := by
    rw [List.getElem_reverse]
    congr 1
    omega
  rw [findK_at l.reverse q (l.length - 1 - i) hj (fun j hj1 hj2 => ?_) (by rw [e]; exact hk), e]
  rw [List.getElem_reverse]
  exact hn _ (by omega) _
theorem lastV_none {l : List PolD} {q : Int} (hn : noFrom l q 0) : lastV l q = none := by
  unfold lastV
  refine findK_absent q _ fun x hx => ?_
  obtain ⟨i, hi, rfl⟩ := List.getElem_of_mem (List.mem_reverse.1 hx)
  exact hn i (Nat.zero_le _) hi

/-- What a round of gathered knows. -/
structure GthI (w wr : World) (l : List PolD) (n : Nat) (sv : Value) : Prop where
  own : wr.ownsRow w.heap.size 24 2 sv (gthTo l n).length (polCells (gthTo l n))
  below : Below w.heap.size w wr
theorem GthI.grown {w wr wx : World} {l : List PolD} {n : Nat} {sv sv' : Value} {q v : Int} (h : GthI w wr l n sv) (hg : wr.grownBy wx sv.ownBlock) (ho : wx.ownsRow w.heap.size 24 2 sv' ((gthTo l n).length + 1) (polCells (gthTo l n) ++ [.int .i64 q, .int .i64 v]))
    (hq : q = ((n + 1 : Nat) : Int)) (hl : lastV l q = some v) : GthI w wx l (n + 1) sv' := by
  subst hq
  refine ⟨?_, ?_⟩
  · rw [gthTo_some hl, polCells_snoc, List.length_append]
    exact ho
  · refine ⟨hg.os.trans h.below.os, hg.tape.trans h.below.tape, hg.output.trans h.below.output, Nat.le_trans h.below.size hg.size, fun j hj => (hg.block j (Nat.lt_of_lt_of_le hj h.below.size) fun e => ?_).trans (h.below.block j hj)⟩
    have := (h.own.lt j e.symm).1
    omega
theorem GthI.later {w wr wx : World} {l : List PolD} {n : Nat} {sv : Value} (h : GthI w wr l n sv) (hb : Below wr.heap.size wr wx) : GthI w wx l n sv :=
  ⟨ownsRow_below h.own hb, h.below.trans (hb.mono h.below.size)⟩
theorem GthI.none {w wr : World} {l : List PolD} {n : Nat} {sv : Value} (h : GthI w wr l n sv) (hl : lastV l ((n + 1 : Nat) : Int) = .none) : GthI w wr l (n + 1) sv := by
  refine ⟨?_, h.below⟩
  rw [gthTo_none hl]
  exact h.own

set_option maxRecDepth 100000 in
set_option maxHeartbeats 4000000 in
theorem gathered_any (ao : Option Addr) (cap : Nat) (l : List PolD) (w : World) (h : RowAt w ao l) (hl : l.length ≤ 1000000) :
    Calls Tryd.prog 38 #[.slice ao l.length cap] w fun e w' => ∃ sv, e = .returned sv ∧ GthI w w' l 13 sv := by
  have HR := Lib.hid h
  have HL := Lib.hid hl
  clear h hl
  obtain ⟨i0, hi, hz0, hz1, hz2⟩ := info_parts Tryd.info46
  go_enter Tryd.func38, Tryd.ntmps38
  go_wp2_with fail
  go_loopw [3, 4] (fun v k wr => ∃ n : Nat, k = .int .i64 ((n : Int) + 1) ∧ n ≤ 13 ∧ GthI w wr l n v) (fun _ k _ => 14 - (intOf k).toNat)
  case atStart => exact ⟨0, rfl, by omega, World.ownsRow_nil _ _ _ _, Below.refl _ _⟩
  case round =>
    obtain ⟨n, rfl, hn, hinv⟩ := hrel
    obtain ⟨wo, rfl⟩ : ∃ wo : World, wo = wr := ⟨_, rfl⟩
    obtain ⟨sv, rfl⟩ : ∃ sv : Value, sv = u3 := ⟨_, rfl⟩
    have HI := Lib.hid hinv
    clear hinv
    by_cases hlt : n < 13
    · have hn1 : (n : Int) + 1 ≤ 13 := by omega
      have hn2 : (0 : Int) ≤ (n : Int) + 1 := by omega
      have hlb : (l.length : Int) ≤ 1000000 := by have := HL.out; omega
      have hl0 : (0 : Int) ≤ (l.length : Int) := by omega
      go_wp2_with fail
      go_loopw [3, 5] (fun v i wr => ∃ m : Nat, i = .int .i64 ((m : Int) - 1) ∧ m ≤ l.length ∧ noFrom l ((n : Int) + 1) m ∧ sv = v ∧ wo = wr) (fun _ i _ => (intOf i + 1).toNat)
      case atStart => exact ⟨l.length, rfl, Nat.le_refl _, fun i h1 h2 => absurd h2 (by omega), rfl, rfl⟩
      case round =>
        obtain ⟨m, rfl, hm, hno, rfl, rfl⟩ := hrel
        have HN := Lib.hid hno
        clear hno
        cases m with
        | zero =>
          have HF : Hid (lastV l ((n + 1 : Nat) : Int) = none) := Lib.hid (lastV_none HN.out)
          go_wp2_with fail
          exact ⟨⟨n + 1, by go_num, by omega, HI.out.none HF.out⟩, by simp [intOf]; omega⟩
        | succ m =>
          rcases HR.out with h0 | ⟨b, off, rfl, hb, hp⟩
          · subst h0; exact absurd hm (by simp)
          obtain ⟨c0, c1⟩ := (hp.below HI.out.below hb) m hm
          obtain ⟨kk, hkk⟩ : ∃ kk, l[m].k = kk := ⟨_, rfl⟩
          obtain ⟨vv, hvv⟩ : ∃ vv, l[m].v = vv := ⟨_, rfl⟩
          rw [hkk] at c0
          rw [hvv] at c1
          have HKK := Lib.hid hkk
          have HVV := Lib.hid hvv
          have e0 : ((m + 1 : Nat) : Int) - 1 = (m : Int) := by omega
          rw [e0]
          have hm0 : (0 : Int) ≤ (m : Int) := by omega
          have hm1 : (m : Int) < (l.length : Int) := by omega
          clear hkk hvv hp e0
          by_cases hq : kk = (n : Int) + 1
          · have e1 : (kk == (n : Int) + 1) = true := by simpa using hq
            have HQ := Lib.hid hq
            have HF : Hid (lastV l kk = some vv) := Lib.hid (by rw [← HVV.out]; exact lastV_at hm (by rw [hq]; exact HN.out) HKK.out)
            have HLK : Hid ((gthTo l n).length ≤ 13) := Lib.hid (by have := gthTo_len l n; omega)
            clear hq
            go_wp2_with (at_builtin; refine wpList_append_own_at _ rfl _ _ 22 rfl w.heap.size 24 i0 (.agg #[.int .i64 0, .int .i64 0]) 2 16 under22 hi hz0 hz1 hz2 rfl (by decide) _ _ _ rfl (HI.out.own.alloc _) ⟨wo.heap.size, 0, none⟩ 1 1 [.int .i64 kk, .int .i64 vv] rfl rfl (cell_pol_new (heap_alloc_new _ _)) (by simp [Value.oneCell']) (by have := HLK.out; unfold maxLen; omega) (by have := HLK.out; omega) (by have := HI.out.below.size; simp; omega) ?_; intro v' w3 hown' hgrow _ _; have HI3 := Lib.hid (GthI.grown (HI.out.later ((Below.refl _ _).alloc (Nat.le_refl _) _)) hgrow hown' HQ.out HF.out); clear hown' hgrow)
            exact ⟨⟨n + 1, by go_num, by omega, HI3.out⟩, by simp [intOf]; omega⟩
          · have e1 : (kk == (n : Int) + 1) = false := by simpa using hq
            have HQ := Lib.hid hq
            clear hq
            go_wp2_with fail
            refine ⟨⟨m, rfl, by omega, fun i h1 h2 => ?_, by first | trivial | rfl, by first | trivial | rfl⟩, by simp [intOf]⟩
            by_cases h3 : i = m
            · subst h3; rw [HKK.out]; exact HQ.out
            · exact HN.out i (by omega) h2
    · obtain rfl : n = 13 := by omega
      go_wp2_with fail
      go_ret
      exact ⟨_, rfl, HI.out⟩

/-- The policies' cells, off a row. -/
theorem row_cells {W : World} {b off : Nat} {l : List PolD} (h : PolsAt W b off l) : ∀ (j : Nat) (u : Value), (polCells l)[j]? = some u → W.cell? ((⟨b, off, none⟩ : Addr).add j) = some u := by
  intro j u hu
  have hadd : (⟨b, off, none⟩ : Addr).add j = ⟨b, off + j, none⟩ := by unfold Addr.add; split <;> simp_all
  rw [hadd]
  have hlen : (polCells l).length = l.length * 2 := by
    clear h hu hadd
    induction l with
    | nil => rfl
    | cons p r ih => rw [show polCells (p :: r) = [.int .i64 p.k, .int .i64 p.v] ++ polCells r by simp [polCells], List.length_append, ih, List.length_cons]; simp; omega
  have hj : j < l.length * 2 := by rw [← hlen]; exact (List.getElem?_eq_some_iff.1 hu).1
  obtain ⟨c0, c1⟩ := h (j / 2) (by omega)
  obtain ⟨e0, e1⟩ := polCells_at l (j / 2) (by omega)
  by_cases hp : j % 2 = 0
  · rw [show j / 2 * 2 = j by omega] at e0
    rw [show off + j / 2 * 2 = off + j by omega] at c0
    rw [e0] at hu
    rw [c0, Option.some.inj hu]
  · rw [show j / 2 * 2 + 1 = j by omega] at e1
    rw [show off + j / 2 * 2 + 1 = off + j by omega] at c1
    rw [e1] at hu
    rw [c1, Option.some.inj hu]
theorem polCells_len (l : List PolD) : (polCells l).length = l.length * 2 := by
  induction l with
  | nil => rfl
  | cons p r ih => rw [show polCells (p :: r) = [.int .i64 p.k, .int .i64 p.v] ++ polCells r by simp [polCells], List.length_append, ih, List.length_cons]; simp; omega
theorem polCells_append (l m : List PolD) : polCells (l ++ m) = polCells l ++ polCells m := by simp [polCells]
theorem polCells_one (l : List PolD) : ∀ u ∈ polCells l, u.oneCell' = true := by
  intro u hu
  obtain ⟨p, _, hp⟩ := List.mem_flatMap.1 hu
  simp only [List.mem_cons, List.not_mem_nil, or_false] at hp
  rcases hp with rfl | rfl <;> rfl

/-- A row of one's own, and a slice of policies behind it: nil or not. -/
theorem append_row {w : World} {ops : Array Oper} {rest : List Oper} {o : Oper} {a : Act} {Q : Exit → Act → World → Prop} (hgd : o.guard = none) (s x : Operand)
    (ho : o.op = .call { callee := .builtin .append, args := #[s, x], argTypes := #[22, 22] }) (base : Nat) (v : Value) (l : List PolD) (hs : a.eval s = v) (hown : w.ownsRow base 24 2 v l.length (polCells l)) (d : SlD) (hd : d.Ok w) (hx : a.eval x = d.v)
    (hl : l.length ≤ 1000000) (hm : d.l.length ≤ 1000000) (hb : base ≤ w.heap.size)
    (h : ∀ v' w', w'.ownsRow base 24 2 v' (l ++ d.l).length (polCells (l ++ d.l)) → w.grownBy w' v.ownBlock → wpList Tryd.prog ops Q rest (a.put o.dst v') w') : wpList Tryd.prog ops Q (o :: rest) a w := by
  obtain ⟨i0, hi, hz0, hz1, hz2⟩ := info_parts Tryd.info46
  obtain ⟨da, dl, dc⟩ := d
  cases da with
  | none =>
    obtain ⟨e1, e2⟩ := hd.bare rfl
    simp only at e1 e2
    subst e1 e2
    exact wpList_append_own_none hgd s x 22 ho base 24 i0 2 under22 hi v l.length (polCells l) hs hown hx (h v w (by simpa using hown) (World.grownBy.refl w _))
  | some ad =>
    refine wpList_append_own_at w hgd s x 22 ho base 24 i0 (.agg #[.int .i64 0, .int .i64 0]) 2 16 under22 hi hz0 hz1 hz2 rfl (by decide) v l.length (polCells l) hs hown ad dl.length dc (polCells dl) hx (polCells_len dl) ?_ (polCells_one dl) (by simp only at hm; unfold maxLen; omega) (by simp only at hm; omega) hb ?_
    · rcases hd.row with h0 | ⟨b, off, h1, _, hp⟩
      · simp only at h0
        subst h0
        intro j u hu
        simp [polCells] at hu
      · simp only [Option.some.injEq] at h1
        subst h1
        exact row_cells hp
    · intro v' w' h1 h2 _ _
      exact h v' w' (by rw [List.length_append, polCells_append]; exact h1) h2

/-- The first n rows, one behind the other. -/
def allTo (ss : List SlD) (n : Nat) : List PolD := (ss.take n).flatMap fun d => d.l
theorem allTo_succ {ss : List SlD} {n : Nat} (h : n < ss.length) : allTo ss (n + 1) = allTo ss n ++ ss[n].l := by
  unfold allTo
  rw [List.take_succ_eq_append_getElem h, List.flatMap_append]
  simp
theorem allTo_len {ss : List SlD} (hls : ∀ d ∈ ss, d.l.length ≤ 1000) : ∀ n, n ≤ ss.length → (allTo ss n).length ≤ 1000 * n
  | 0, _ => by simp [allTo]
  | n + 1, h => by
    rw [allTo_succ (by omega), List.length_append]
    have h1 := allTo_len hls n (by omega)
    have h3 := hls _ (List.getElem_mem (show n < ss.length by omega))
    omega

/-- What the reference's Effective returns. -/
noncomputable def rEffL (ss : List SlD) : List PolD := if allOk ss = true then gthTo (allTo ss ss.length) 13 else []

/-- What a round of the reference's Effective knows. -/
structure AllI (w wr : World) (l : List PolD) (sv : Value) : Prop where
  own : wr.ownsRow w.heap.size 24 2 sv l.length (polCells l)
  below : Below w.heap.size w wr
theorem AllI.later {w wr wx : World} {l : List PolD} {sv : Value} (h : AllI w wr l sv) (hb : Below wr.heap.size wr wx) : AllI w wx l sv := ⟨ownsRow_below h.own hb, h.below.trans (hb.mono h.below.size)⟩
theorem AllI.grown {w wr wx : World} {l m : List PolD} {sv sv' : Value} (h : AllI w wr l sv) (ho : wx.ownsRow w.heap.size 24 2 sv' m.length (polCells m)) (hg : wr.grownBy wx sv.ownBlock) : AllI w wx m sv' :=
  ⟨ho, hg.os.trans h.below.os, hg.tape.trans h.below.tape, hg.output.trans h.below.output, Nat.le_trans h.below.size hg.size, fun j hj => (hg.block j (Nat.lt_of_lt_of_le hj h.below.size) fun e => by have := (h.own.lt j e.symm).1; omega).trans (h.below.block j hj)⟩
theorem SlD.Ok.grown {W W' : World} {d : SlD} {B : Nat} {row : Option Nat} (h : d.Ok W) (hg : W.grownBy W' row) (hlt : RowLt B W d.a d.l) (hr : ∀ r, row = some r → B ≤ r) (hB : B ≤ W.heap.size) : d.Ok W' := by
  refine ⟨h.len, ?_, h.bare⟩
  rcases hlt with h0 | ⟨b, off, h1, h2, h3⟩
  · exact .inl h0
  · have e : ∀ o, W'.cell? ⟨b, o, none⟩ = W.cell? ⟨b, o, none⟩ := fun o => by simp only [World.cell?, hg.block b (by omega) (fun e => by have := hr b e.symm; omega)]
    refine .inr ⟨b, off, h1, Nat.lt_of_lt_of_le (by omega) hg.size, fun i hi => ?_⟩
    rw [e, e]
    exact h3 i hi

end Go.Proofs.YtladjkkkhomngaaDoor
