/- Pieces in memory; the contracts of allValid, of the reference's pieces, and of SamePieces for two rows of the same pieces. -/
import Derived.Test.YteblbpdpfegooaaA
import Derived.OwnWalk
import Derived.Laws.AppendOwn
import Derived.Laws.AppendOwnNone
import Derived.RangeFuncBox
namespace Go.Proofs.Yteblbpdpfegooaa
open Go.RowKit Go.BigFrame

/-- Pieces lie at a place. -/
def PcsAt (W : World) (b off : Nat) (l : List Pc) : Prop := ∀ i (h : i < l.length), W.cell? ⟨b, off + i * 4, none⟩ = some (.int .i64 l[i].id) ∧ W.cell? ⟨b, off + i * 4 + 1, none⟩ = some (.int .i64 l[i].place) ∧ W.cell? ⟨b, off + i * 4 + 2, none⟩ = some (.bool l[i].more) ∧ W.cell? ⟨b, off + i * 4 + 3, none⟩ = some (.string l[i].body)

/-- A slice's address under which pieces lie. -/
def RowAt (W : World) (ao : Option Addr) (l : List Pc) : Prop := l = [] ∨ ∃ b off, ao = some ⟨b, off, none⟩ ∧ b < W.heap.size ∧ PcsAt W b off l

theorem PcsAt.below {W W' : World} {B b off : Nat} {l : List Pc} (h : PcsAt W b off l) (hb : Below B W W') (hB : b < B) : PcsAt W' b off l := fun i hi => by
  obtain ⟨h0, h1, h2, h3⟩ := h i hi
  exact ⟨(hb.cell hB).trans h0, (hb.cell hB).trans h1, (hb.cell hB).trans h2, (hb.cell hB).trans h3⟩

theorem RowAt.below {W W' : World} {ao : Option Addr} {l : List Pc} (h : RowAt W ao l) (hb : Below W.heap.size W W') : RowAt W' ao l := by
  rcases h with h | ⟨b, off, h0, h1, h2⟩
  · exact .inl h
  · exact .inr ⟨b, off, h0, Nat.lt_of_lt_of_le h1 hb.size, h2.below hb h1⟩

/-- The cells of pieces. -/
def pcCells (l : List Pc) : List Value := l.flatMap fun p => [.int .i64 p.id, .int .i64 p.place, .bool p.more, .string p.body]

theorem pcCells_snoc (l : List Pc) (p : Pc) : pcCells (l ++ [p]) = pcCells l ++ [.int .i64 p.id, .int .i64 p.place, .bool p.more, .string p.body] := by simp [pcCells]

theorem pcCells_cons (p : Pc) (r : List Pc) : pcCells (p :: r) = [.int .i64 p.id, .int .i64 p.place, .bool p.more, .string p.body] ++ pcCells r := by simp [pcCells]

theorem pcCells_append (l m : List Pc) : pcCells (l ++ m) = pcCells l ++ pcCells m := by simp [pcCells]

theorem pcCells_len (l : List Pc) : (pcCells l).length = l.length * 4 := by
  induction l with
  | nil => rfl
  | cons p r ih => rw [pcCells_cons, List.length_append, ih, List.length_cons]; simp; omega

theorem pcCells_one (l : List Pc) : ∀ u ∈ pcCells l, u.oneCell' = true := by
  intro u hu
  obtain ⟨p, _, hp⟩ := List.mem_flatMap.1 hu
  simp only [List.mem_cons, List.not_mem_nil, or_false] at hp
  rcases hp with rfl | rfl | rfl | rfl <;> rfl

theorem pcCells_at : ∀ (l : List Pc) (i : Nat) (h : i < l.length), (pcCells l)[i * 4]? = some (.int .i64 l[i].id) ∧ (pcCells l)[i * 4 + 1]? = some (.int .i64 l[i].place) ∧ (pcCells l)[i * 4 + 2]? = some (.bool l[i].more) ∧ (pcCells l)[i * 4 + 3]? = some (.string l[i].body)
  | p :: r, 0, _ => by rw [pcCells_cons]; exact ⟨rfl, rfl, rfl, rfl⟩
  | p :: r, i + 1, h => by
    have ih := pcCells_at r i (by simpa using h)
    rw [pcCells_cons]
    simp only [List.getElem_cons_succ]
    rw [show (i + 1) * 4 = i * 4 + 4 by omega, show i * 4 + 4 + 1 = i * 4 + 1 + 4 by omega, show i * 4 + 4 + 2 = i * 4 + 2 + 4 by omega, show i * 4 + 4 + 3 = i * 4 + 3 + 4 by omega]
    have e : ∀ j, ([Value.int .i64 p.id, .int .i64 p.place, .bool p.more, .string p.body] ++ pcCells r)[j + 4]? = (pcCells r)[j]? := fun j => by
      rw [List.getElem?_append_right (by simp)]; simp
    rw [e, e, e, e]
    exact ih

theorem add_none (b o j : Nat) : (⟨b, o, none⟩ : Addr).add j = ⟨b, o + j, none⟩ := by unfold Addr.add; split <;> simp_all

theorem belowGrown {W W' : World} (h : Below W.heap.size W W') : W.grownBy W' none := ⟨h.os, h.tape, h.output, h.size, fun k hk _ => h.block k hk⟩

theorem ownsRow_below {W W' : World} {base : Nat} {e : TypeId} {size : Nat} {v : Value} {n : Nat} {xs : List Value} (h : W.ownsRow base e size v n xs) (hb : Below W.heap.size W W') : W'.ownsRow base e size v n xs :=
  h.kept (belowGrown hb) (by cases hv : v.ownBlock with
    | none => exact .inl rfl
    | some g => exact .inr (by simp))

theorem below_grown {w wr wx : World} {base n size : Nat} {e : TypeId} {sv : Value} {xs : List Value} (h : Below w.heap.size w wr) (ho : wr.ownsRow base e size sv n xs) (hg : wr.grownBy wx sv.ownBlock) (hb : w.heap.size ≤ base) : Below w.heap.size w wx :=
  ⟨hg.os.trans h.os, hg.tape.trans h.tape, hg.output.trans h.output, Nat.le_trans h.size hg.size, fun j hj => (hg.block j (Nat.lt_of_lt_of_le hj h.size) fun e => by
    have := (ho.lt j e.symm).1
    omega).trans (h.block j hj)⟩

/-- A slice of pieces. -/
structure SlD where
  a : Option Addr
  l : List Pc
  c : Nat

def SlD.v (d : SlD) : Value := .slice d.a d.l.length d.c

/-- .. that lies in memory. -/
structure SlD.Ok (W : World) (d : SlD) : Prop where
  len : d.l.length ≤ d.c
  row : RowAt W d.a d.l
  bare : d.a = none → d.l = [] ∧ d.c = 0

theorem SlD.Ok.below {W W' : World} {d : SlD} (h : d.Ok W) (hb : Below W.heap.size W W') : d.Ok W' := ⟨h.len, h.row.below hb, h.bare⟩

theorem row_of_own {W : World} {base : Nat} {sv : Value} {l : List Pc} (h : W.ownsRow base 25 4 sv l.length (pcCells l)) : ∃ ao cap, sv = .slice ao l.length cap ∧ RowAt W ao l := by
  match l, h with
  | [], h =>
    rcases h.2 with ⟨rfl, _⟩ | ⟨g, cap, _, rfl, _⟩
    · exact ⟨none, 0, rfl, .inl rfl⟩
    · exact ⟨some ⟨g, 0, none⟩, cap, rfl, .inl rfl⟩
  | p :: r, h =>
    obtain ⟨g, cap, rfl⟩ : ∃ g cap, sv = .slice (some ⟨g, 0, none⟩) (p :: r).length cap := by
      rcases h.2 with ⟨_, h0⟩ | ⟨g, cap, _, hv, _⟩
      · simp at h0
      · exact ⟨g, cap, hv⟩
    refine ⟨_, _, rfl, .inr ⟨g, 0, rfl, (h.lt g rfl).2, fun i hi => ?_⟩⟩
    have hc := h.cells (g := g) rfl
    obtain ⟨e0, e1, e2, e3⟩ := pcCells_at (p :: r) i hi
    have a0 := hc _ _ e0
    have a1 := hc _ _ e1
    have a2 := hc _ _ e2
    have a3 := hc _ _ e3
    rw [add_none] at a0 a1 a2 a3
    exact ⟨a0, by simpa [Nat.add_assoc] using a1, by simpa [Nat.add_assoc] using a2, by simpa [Nat.add_assoc] using a3⟩

theorem sl_of_own {W : World} {base : Nat} {sv : Value} {l : List Pc} (h : W.ownsRow base 25 4 sv l.length (pcCells l)) : ∃ d : SlD, d.l = l ∧ sv = d.v ∧ d.Ok W := by
  obtain ⟨ao, cap, rfl, hr⟩ := row_of_own h
  refine ⟨⟨ao, l, cap⟩, rfl, rfl, ?_⟩
  rcases h.2 with ⟨h1, h2⟩ | ⟨g, cap', cur, h1, _, _, h2, _⟩
  · simp only [Value.slice.injEq] at h1
    obtain ⟨_, _, rfl⟩ := h1
    exact ⟨by simp [h2], hr, fun _ => ⟨List.eq_nil_of_length_eq_zero h2, rfl⟩⟩
  · simp only [Value.slice.injEq] at h1
    obtain ⟨rfl, _, rfl⟩ := h1
    exact ⟨h2, hr, fun h => by cases h⟩

/-- What a call returns that returns pieces and an error. -/
def RowPost (w : World) (l : List Pc) (er : Int) (e : Ending) (w' : World) : Prop := ∃ d : SlD, d.l = l ∧ e = .returned (.tuple #[d.v, .int .i64 er]) ∧ d.Ok w' ∧ Below w.heap.size w w'

theorem RowPost.nil {w w' : World} {l : List Pc} {er : Int} {e : Ending} (hl : l = []) (he : e = .returned (.tuple #[.slice none 0 0, .int .i64 er])) (hb : Below w.heap.size w w') : RowPost w l er e w' := by
  subst hl
  exact ⟨⟨none, [], 0⟩, rfl, he, ⟨Nat.le_refl _, .inl rfl, fun _ => ⟨rfl, rfl⟩⟩, hb⟩

theorem RowPost.own {w w' : World} {l : List Pc} {er : Int} {e : Ending} {sv : Value} {base : Nat} (ho : w'.ownsRow base 25 4 sv l.length (pcCells l)) (he : e = .returned (.tuple #[sv, .int .i64 er])) (hb : Below w.heap.size w w') : RowPost w l er e w' := by
  obtain ⟨d, hd, hv, hok⟩ := sl_of_own ho
  exact ⟨d, hd, by rw [he, hv], hok, hb⟩

theorem cell_pc_new {W : World} {b : Nat} {i pl : Int} {m : Bool} {x : ByteArray} (h : W.heap[b]? = some (.cells #[.int .i64 i, .int .i64 pl, .bool m, .string x] 25 (0, 0))) : ∀ (j : Nat) (u : Value), [Value.int .i64 i, .int .i64 pl, .bool m, .string x][j]? = some u → W.cell? ((⟨b, 0, none⟩ : Addr).add j) = some u := by
  intro j u hu
  rw [add_none, cells_at h]
  rw [← hu]
  simp

theorem infoPc : (Try.prog.info? 25).map (fun i => (i.zero, i.size, i.bytes)) = some (some (.agg #[.int .i64 0, .int .i64 0, .bool false, .string ⟨#[]⟩]), 4, 40) := by kernel_rfl

theorem under24 : Try.prog.underlying 23 = some (.slice 25) := by kernel_rfl

/-- Are all of them valid? -/
def allV (l : List Pc) : Bool := l.all vP

theorem allV_at {l : List Pc} (h : allV l = true) : ∀ p ∈ l, vP p = true := List.all_eq_true.1 h

theorem allV_bad {l : List Pc} {i : Nat} (h : i < l.length) (hb : vP l[i] = false) : allV l = false := by
  cases ha : allV l with
  | false => rfl
  | true =>
    have := allV_at ha _ (List.getElem_mem h)
    rw [hb] at this
    cases this

def valTo (l : List Pc) (n : Nat) : Prop := ∀ i, i < n → ∀ h : i < l.length, vP l[i] = true

theorem allV_all {l : List Pc} (h : valTo l l.length) : allV l = true := List.all_eq_true.2 fun d hd => by
  obtain ⟨i, hi, rfl⟩ := List.getElem_of_mem hd
  exact h i hi hi

theorem valTo.snoc {l : List Pc} {n : Nat} (h : valTo l n) (hv : ∀ h : n < l.length, vP l[n] = true) : valTo l (n + 1) := fun i hi hl => by
  by_cases e : i = n
  · subst e; exact hv hl
  · exact h i (by omega) hl

def okL (l : List Pc) : Bool := decide (l.length ≤ 2000) && allV l

theorem pc_eta (p : Pc) : (⟨p.id, p.place, p.more, p.body⟩ : Pc) = p := by cases p; rfl

set_option maxRecDepth 100000 in
set_option maxHeartbeats 1000000 in
theorem bad_any (i pl : Int) (m : Bool) (b : ByteArray) (w : World) :
    Calls Try.prog 54 #[.agg #[.int .i64 i, .int .i64 pl, .bool m, .string b]] w fun e w' => e = .returned (.bool (!vP ⟨i, pl, m, b⟩)) ∧ Below w.heap.size w w' := by
  have hb : Below w.heap.size w (w.alloc (pcO i pl m b)) := (Below.refl _ _).alloc (Nat.le_refl _) _
  have HB := Lib.hid hb
  have VA := Lib.hid fun wx => valid_any i pl m b wx
  obtain ⟨r, hr⟩ : ∃ r, vP ⟨i, pl, m, b⟩ = r := ⟨_, rfl⟩
  rw [hr] at VA
  rw [hr]
  clear hb hr
  go_enter Try.func54, Try.ntmps54
  cases r
  · go_wp2_with (go_at_call 32; refine (VA.out _).mono ?_; rintro e w2 ⟨rfl, hb2⟩; have B2 := Lib.hid (HB.out.trans (hb2.mono HB.out.size)); clear hb2)
    go_ret
    exact ⟨rfl, B2.out⟩
  · go_wp2_with (go_at_call 32; refine (VA.out _).mono ?_; rintro e w2 ⟨rfl, hb2⟩; have B2 := Lib.hid (HB.out.trans (hb2.mono HB.out.size)); clear hb2)
    go_ret
    exact ⟨rfl, B2.out⟩

set_option maxRecDepth 100000 in
set_option maxHeartbeats 1000000 in
theorem indexBad_any (ao : Option Addr) (cap : Nat) (l : List Pc) (w : World) (h : RowAt w ao l) (hl : l.length ≤ 9223372036854775806) :
    Calls Try.prog 61 #[.slice ao l.length cap, .func (.func 54) #[] #[]] w fun e w' => ∃ k : Int, e = .returned (.int .i64 k) ∧ decide (0 ≤ k) = !allV l ∧ Below w.heap.size w w' := by
  have HR := Lib.hid h
  have HL := Lib.hid hl
  clear h hl
  go_enter Try.func61, Try.ntmps61
  go_wp2_with fail
  go_loopw [8] (fun i wr => ∃ k : Nat, i = .int .i64 k ∧ k ≤ l.length ∧ valTo l k ∧ Below w.heap.size w wr) (fun i _ => l.length - (intOf i).toNat)
  case atStart => exact ⟨0, rfl, Nat.zero_le _, fun i h => absurd h (Nat.not_lt_zero i), Below.refl _ _⟩
  case round =>
    obtain ⟨k, rfl, hk, hok, hbel⟩ := hrel
    have HB := Lib.hid hbel
    have HK := Lib.hid hok
    clear hbel hok
    by_cases hlt : k < l.length
    · rcases HR.out with h0 | ⟨b, off, rfl, hb, hp⟩
      · subst h0; exact absurd hlt (by simp)
      obtain ⟨c0, c1, c2, c3⟩ := (hp.below HB.out hb) k hlt
      obtain ⟨p, hpp⟩ : ∃ p, l[k] = p := ⟨_, rfl⟩
      rw [hpp] at c0 c1 c2 c3
      obtain ⟨i, pl, m, bd⟩ := p
      simp only at c0 c1 c2 c3
      have HPP := Lib.hid hpp
      have CC := Lib.hid (bad_any i pl m bd wr)
      obtain ⟨r, hr⟩ : ∃ r, vP ⟨i, pl, m, bd⟩ = r := ⟨_, rfl⟩
      rw [hr] at CC
      have HRR := Lib.hid hr
      have hk1 : (k : Int) < (l.length : Int) := by omega
      have hk2 : (k : Int) + 1 ≤ 9223372036854775807 := by have := HL.out; omega
      have hk0 : (0 : Int) ≤ (k : Int) := by omega
      clear hpp hr hp
      cases r
      · go_wp2_with (go_at_call 54; refine CC.out.mono ?_; rintro e w2 ⟨rfl, hb2⟩; have B2 := Lib.hid (HB.out.trans (hb2.mono HB.out.size)); clear hb2)
        go_ret
        exact ⟨k, rfl, by rw [allV_bad hlt (by rw [HPP.out]; exact HRR.out)]; simp, B2.out⟩
      · go_wp2_with (go_at_call 54; refine CC.out.mono ?_; rintro e w2 ⟨rfl, hb2⟩; have B2 := Lib.hid (HB.out.trans (hb2.mono HB.out.size)); clear hb2)
        exact ⟨⟨k + 1, by go_num, hlt, HK.out.snoc fun _ => by rw [HPP.out]; exact HRR.out, B2.out⟩, by simp [intOf]; omega⟩
    · obtain rfl : k = l.length := by omega
      have HA : Hid (allV l = true) := Lib.hid (allV_all HK.out)
      go_wp2_with fail
      go_ret
      exact ⟨-1, rfl, by rw [HA.out]; rfl, HB.out⟩

set_option maxHeartbeats 1000000 in
theorem anyBad_any (ao : Option Addr) (cap : Nat) (l : List Pc) (w : World) (h : RowAt w ao l) (hl : l.length ≤ 9223372036854775806) :
    Calls Try.prog 53 #[.slice ao l.length cap, .func (.func 54) #[] #[]] w fun e w' => e = .returned (.bool (!allV l)) ∧ Below w.heap.size w w' := by
  have IX := Lib.hid (indexBad_any ao cap l w h hl)
  clear h hl
  go_enter Try.func53, Try.ntmps53
  go_wp2_with (go_at_call 61; refine IX.out.mono ?_; rintro e w1 ⟨k, rfl, hk, hb1⟩; have B1 := Lib.hid hb1; have HK := Lib.hid hk; clear hb1 hk)
  go_ret
  exact ⟨ret_bool HK.out, B1.out⟩

set_option maxHeartbeats 1000000 in
theorem allValid_any (ao : Option Addr) (cap : Nat) (l : List Pc) (w : World) (h : RowAt w ao l) :
    Calls Try.prog 41 #[.slice ao l.length cap] w fun e w' => e = .returned (.bool (okL l)) ∧ Below w.heap.size w w' := by
  obtain ⟨r, hr⟩ : ∃ r, okL l = r := ⟨_, rfl⟩
  rw [hr]
  unfold okL at hr
  by_cases h1 : l.length ≤ 2000
  · have AB := Lib.hid (anyBad_any ao cap l w h (by omega))
    have e1 : (l.length : Int) ≤ 2000 := by omega
    have e2 : decide ((l.length : Int) ≤ 2000) = true := decide_eq_true e1
    rw [decide_eq_true h1] at hr
    obtain ⟨s, hs⟩ : ∃ s, allV l = s := ⟨_, rfl⟩
    rw [hs] at hr AB
    obtain rfl : s = r := by rw [← hr]; cases s <;> rfl
    clear h1 h hr hs
    cases s
    · go_enter Try.func41, Try.ntmps41
      go_wp2_with (go_at_call 53; refine AB.out.mono ?_; rintro e w1 ⟨rfl, hb1⟩; have B1 := Lib.hid hb1; clear hb1)
      go_ret
      exact ⟨rfl, B1.out⟩
    · go_enter Try.func41, Try.ntmps41
      go_wp2_with (go_at_call 53; refine AB.out.mono ?_; rintro e w1 ⟨rfl, hb1⟩; have B1 := Lib.hid hb1; clear hb1)
      go_ret
      exact ⟨rfl, B1.out⟩
  · have e1 : ¬ (l.length : Int) ≤ 2000 := by omega
    have e2 : decide ((l.length : Int) ≤ 2000) = false := decide_eq_false e1
    obtain rfl : r = false := by rw [← hr, decide_eq_false h1]; rfl
    clear h1 h hr
    go_enter Try.func41, Try.ntmps41
    go_wp2_with fail
    go_ret
    exact ⟨rfl, Below.refl _ _⟩

end Go.Proofs.Yteblbpdpfegooaa
