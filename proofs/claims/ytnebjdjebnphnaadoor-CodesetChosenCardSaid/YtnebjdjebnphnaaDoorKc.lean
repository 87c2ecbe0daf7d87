/- Parse of both packages. -/
import Derived.Test.YtnebjdjebnphnaaDoorKb
import Derived.Lib.SplitLaws
import Derived.Maps.AppendAt
namespace Go.Proofs.YtnebjdjebnphnaaDoor
set_option maxRecDepth 8000
open Go.RowKit Go.BigFrame

/-- A slice of strings that lies in memory. -/
def StrsAt (W : World) (b : Nat) (l : List ByteArray) : Prop := b < W.heap.size ∧ ∀ j x, l[j]? = some x → W.cell? ⟨b, j, none⟩ = some (.string x)
theorem StrsAt.below {W W' : World} {b : Nat} {l : List ByteArray} (h : StrsAt W b l) (hb : Below W.heap.size W W') : StrsAt W' b l :=
  ⟨Nat.lt_of_lt_of_le h.1 hb.size, fun j x hx => (hb.cell h.1).trans (h.2 j x hx)⟩
theorem StrsAt.same {W W' : World} {b : Nat} {l : List ByteArray} (h : StrsAt W b l) (hs : W.heap.size ≤ W'.heap.size) (hb : W'.heap[b]? = W.heap[b]?) : StrsAt W' b l :=
  ⟨Nat.lt_of_lt_of_le h.1 hs, fun j x hx => (World.cell?_of_block hb).trans (h.2 j x hx)⟩
theorem strs_new (w : World) (t : TypeId) (l : List ByteArray) (cs : Array Value) (h : cs = (l.map Value.string).toArray) : StrsAt (w.alloc (.cells cs t)) w.heap.size l := by
  subst h
  refine ⟨by simp, fun j x hx => ?_⟩
  rw [cells_at (World.alloc_heap_new w _) j]
  simp [hx]

theorem cell_below {W W' : World} {p : Addr} {v : Value} (h : W.cell? p = some v) (hb : Below W.heap.size W W') : W'.cell? p = some v := (hb.cell (World.block_lt_of_cell? _ _ h)).trans h
theorem tabs_below {W W' : World} (h : Lib.Utf8Tabs 2 3 W) (hb : Below W.heap.size W W') : Lib.Utf8Tabs 2 3 W' :=
  ⟨fun c hc => cell_below (h.1 c hc) hb, fun i hi => ⟨cell_below (h.2 i hi).1 hb, cell_below (h.2 i hi).2 hb⟩⟩
/-- WHAT THE PACKAGE VARIABLES HOLD. -/
structure Env (W : World) : Prop where
  names : NamesAt W
  len : 1 < W.heap.size ∧ ∃ m, W.cell? ⟨1, 0, none⟩ = some (.int .i64 m)
  tabs : Lib.Utf8Tabs 2 3 W
theorem Env.below {W W' : World} (h : Env W) (hb : Below W.heap.size W W') : Env W' := by
  obtain ⟨h1, m, hm⟩ := h.len
  exact ⟨h.names.below hb h.names.1, ⟨Nat.lt_of_lt_of_le h1 hb.size, m, (hb.cell h1).trans hm⟩, tabs_below h.tabs hb⟩

/-- The parts of a text. -/
def partsB (t : ByteArray) : List ByteArray := Lib.splitB ⟨#[44]⟩ 0 (Lib.countB t ⟨#[44]⟩) t
theorem split_any (t : ByteArray) (w : World) (h : Env w) (hs : t.size ≤ 2000) :
    Calls Tryd.prog 43 #[.string t, .string ⟨#[44]⟩] w fun e w' => ∃ b c, e = .returned (.slice (some ⟨b, 0, none⟩) (partsB t).length c) ∧ w.heap.size ≤ b ∧ StrsAt w' b (partsB t) ∧ Below w.heap.size w w' := by
  obtain ⟨_, m, hm⟩ := h.len
  refine (Tryd.strings_Split t ⟨#[44]⟩ m w (by omega) hm (by decide)).mono fun e w' ⟨he, hw⟩ => ?_
  subst hw
  refine ⟨w.heap.size, Lib.countB t ⟨#[44]⟩ + 1, ?_, Nat.le_refl _, strs_new w 9 (partsB t) _ rfl, (Below.refl _ _).alloc (Nat.le_refl _) _⟩
  rw [he, show (partsB t).length = Lib.countB t ⟨#[44]⟩ + 1 from Lib.splitB_all _ (by decide) 0 _ t rfl]
theorem parts_len (t : ByteArray) (h : t.size ≤ 2000) : 1 ≤ (partsB t).length ∧ (partsB t).length ≤ 2001 := by
  have h1 := Lib.countB_le ⟨#[44]⟩ (by decide) t.size t (Nat.le_refl _)
  rw [show (partsB t).length = Lib.countB t ⟨#[44]⟩ + 1 from Lib.splitB_all _ (by decide) 0 _ t rfl]
  omega

/-- What the parts say. -/
def numsP (ps : List ByteArray) : List Int := ps.map setN
def allN (l : List Int) : Bool := l.all fun x => !decide (x = 0)
def prsOk (t : ByteArray) : Bool := allN (numsP (partsB t)) && validC ((numsP (partsB t)).headD 0) (numsP (partsB t)).tail
def prsE (t : ByteArray) : Int := if prsOk t = true then 0 else 2
def prsN (t : ByteArray) : Int := if prsOk t = true then (numsP (partsB t)).headD 0 else 0
def prsL (t : ByteArray) : List Int := if prsOk t = true then (numsP (partsB t)).tail else []
/-- What Parse returns. -/
def ParsePost (w : World) (t : ByteArray) (e : Ending) (w' : World) : Prop :=
  ∃ ao cap, e = .returned (.tuple #[.agg #[.int .i64 (prsN t), .slice ao (prsL t).length cap], .int .i64 (prsE t)]) ∧ (prsL t).length ≤ cap ∧ IntRow w' ao (prsL t) ∧ Below w.heap.size w w'
theorem ParsePost.bad {w w' : World} {t : ByteArray} {e : Ending} (h : prsOk t = false) (he : e = .returned (.tuple #[.agg #[.int .i64 0, .slice none 0 0], .int .i64 2])) (hb : Below w.heap.size w w') : ParsePost w t e w' := by
  have h' : ¬ prsOk t = true := by rw [h]; decide
  unfold ParsePost prsE prsN prsL
  rw [if_neg h', if_neg h', if_neg h']
  exact ⟨none, 0, he, Nat.le_refl _, .inl rfl, hb⟩
theorem ParsePost.good {w w' : World} {t : ByteArray} {e : Ending} {ps : List ByteArray} {ao : Option Addr} {cap : Nat} {x : Int} {l : List Int} (hp : partsB t = ps) (hx : (numsP ps).headD 0 = x) (hl : (numsP ps).tail = l) (h : prsOk t = true) (he : e = .returned (.tuple #[.agg #[.int .i64 x, .slice ao l.length cap], .int .i64 0])) (hc : l.length ≤ cap) (hr : IntRow w' ao l) (hb : Below w.heap.size w w') : ParsePost w t e w' := by
  subst hp; subst hx; subst hl
  unfold ParsePost prsE prsN prsL
  rw [if_pos h, if_pos h, if_pos h]
  exact ⟨ao, cap, he, hc, hr, hb⟩
theorem allN_bad {ps : List ByteArray} {k : Nat} {x : ByteArray} (h : ps[k]? = some x) (hx : setN x = 0) : allN (numsP ps) = false := by
  obtain ⟨hk, hxk⟩ := List.getElem?_eq_some_iff.1 h
  cases ha : allN (numsP ps) with
  | false => rfl
  | true =>
    have := List.all_eq_true.1 ha (setN x) (List.mem_map.2 ⟨x, hxk ▸ List.getElem_mem hk, rfl⟩)
    rw [decide_eq_true hx] at this
    exact absurd this (by decide)
theorem allN_next {ps : List ByteArray} {k : Nat} {x : ByteArray} (h : ps[k]? = some x) (h0 : allN (numsP (ps.take k)) = true) (hx : ¬ setN x = 0) : allN (numsP (ps.take (k + 1))) = true := by
  obtain ⟨hk, hxk⟩ := List.getElem?_eq_some_iff.1 h
  rw [List.take_succ_eq_append_getElem hk, hxk]
  unfold allN numsP at h0 ⊢
  rw [List.map_append, List.all_append, h0]
  simp [hx]
theorem nums_head {ps : List ByteArray} {k : Nat} (hk : 1 ≤ k) : (numsP (ps.take k)).headD 0 = (numsP ps).headD 0 := by
  cases ps with
  | nil => rw [List.take_nil]
  | cons a r => cases k with
    | zero => omega
    | succ k => rfl
theorem nums_tail {ps : List ByteArray} {k : Nat} {x : ByteArray} (h : ps[k]? = some x) (hk : 1 ≤ k) : (numsP (ps.take (k + 1))).tail = (numsP (ps.take k)).tail ++ [setN x] := by
  obtain ⟨hl, hxk⟩ := List.getElem?_eq_some_iff.1 h
  rw [List.take_succ_eq_append_getElem hl, hxk]
  cases ps with
  | nil => simp at hl
  | cons a r => cases k with
    | zero => omega
    | succ k => simp [numsP]

theorem frozen_at {W : World} {g : Nat} {cs : Array Value} {t : TypeId} (h : W.heap[g]? = some (.cells cs t (0, 0))) (i : Nat) : W.frozen? ⟨g, i, none⟩ = false := by simp [World.frozen?, h]
theorem blk_lt {W : World} {g : Nat} {o : Obj} (h : W.heap[g]? = some o) : g < W.heap.size := (Array.getElem?_eq_some_iff.1 h).1
theorem below_setCell {w wr : World} (h : Below w.heap.size w wr) {B : Nat} (hB : w.heap.size ≤ B) (i : Nat) (v : Value) : Below w.heap.size w (wr.setCell ⟨B, i, none⟩ v) :=
  ⟨h.os, h.tape, h.output, by simpa [World.setCell] using h.size, fun k hk => (Below.heap_setCell _ _ _ k (by simp only; omega)).trans (h.block k hk)⟩
theorem row_of_own {W : World} {base : Nat} {sv : Value} {l : List Int} (h : W.ownsRow base 3 1 sv l.length (l.map (Value.int .i64))) : ∃ ao cap, sv = .slice ao l.length cap ∧ l.length ≤ cap ∧ IntRow W ao l := by
  rcases h.2 with ⟨hv, h0⟩ | ⟨g, cap, cur, hv, hb, hg, hc, _⟩
  · exact ⟨none, 0, by rw [hv, h0], by omega, .inl (List.eq_nil_of_length_eq_zero h0)⟩
  · refine ⟨_, cap, hv, hc, .inr ⟨g, 0, rfl, blk_lt hg, fun i hi => ?_⟩⟩
    have hc := (hv ▸ h).cells (g := g) rfl i (.int .i64 l[i]) (by rw [List.getElem?_map, List.getElem?_eq_getElem hi]; rfl)
    rw [add_none] at hc
    exact hc

theorem grownBy_setC (W : World) (a : Addr) (v : Value) : W.grownBy (W.setCell a v) (some a.block) := by
  exact ⟨rfl, rfl, rfl, by simp [World.setCell], fun k _ hk => Below.heap_setCell _ _ _ k (fun e => hk (by rw [e]))⟩
/-- Between two rounds: the result's cell, the codes' box, the parts, the row of the others. -/
structure PaI (w wr : World) (ps : List ByteArray) (R B S base : Nat) (x : Int) (sv : Value) (l : List Int) : Prop where
  rblk : wr.heap[R]? = some (.cells #[.int .i64 0, .slice none 0 0] 36 (0, 0))
  bblk : wr.heap[B]? = some (.cells #[.int .i64 x, sv] 36 (0, 0))
  strs : StrsAt wr S ps
  own : wr.ownsRow base 3 1 sv l.length (l.map (Value.int .i64))
  rb : R ≠ B
  sb : S ≠ B
  wb : w.heap.size ≤ B
  wR : w.heap.size ≤ R
  hR : R < base
  hB : B < base
  hS : S < base
  hb : base ≤ wr.heap.size
  below : Below w.heap.size w wr
section
variable {w wr : World} {ps : List ByteArray} {R B S base : Nat} {x : Int} {sv : Value} {l : List Int}
/-- The native one is set. -/
theorem PaI.native (h : PaI w wr ps R B S base x sv l) (y : Int) : PaI w (wr.setCell ⟨B, 0, none⟩ (.int .i64 y)) ps R B S base y sv l := by
  have hs : (wr.setCell ⟨B, 0, none⟩ (.int .i64 y)).heap.size = wr.heap.size := by simp [World.setCell]
  refine ⟨(heap_setCell_other _ _ _ _ h.rb).trans h.rblk, heap_setCell_same _ _ _ _ _ _ h.bblk, h.strs.same (by omega) (heap_setCell_other _ _ _ _ h.sb), ?_, h.rb, h.sb, h.wb, h.wR, h.hR, h.hB, h.hS, by rw [hs]; exact h.hb, below_setCell h.below h.wb _ _⟩
  exact h.own.kept (grownBy_setC wr ⟨B, 0, none⟩ _) (by cases hv : sv.ownBlock with
    | none => exact .inl rfl
    | some g => exact .inr (by have h1 := (h.own.lt g hv).1; have h2 := h.hB; intro e; have := Option.some.inj e; simp at this; omega))
/-- A number was added to the row. -/
structure PaG (w wr w2 : World) (ps : List ByteArray) (R B S base : Nat) (x : Int) (sv v' : Value) (l : List Int) (y : Int) : Prop where
  h : PaI w wr ps R B S base x sv l
  own : w2.ownsRow base 3 1 v' (l.length + 1) (l.map (Value.int .i64) ++ [.int .i64 y])
  grew : ∃ o, (wr.alloc o).grownBy w2 sv.ownBlock
theorem PaI.keeps (h : PaI w wr ps R B S base x sv l) {o : Obj} {w2 : World} (hg : (wr.alloc o).grownBy w2 sv.ownBlock) {k : Nat} (hk : k < base) : w2.heap[k]? = wr.heap[k]? :=
  (hg.block k (by have := h.hb; simp; omega) fun e => by have := (h.own.lt k e.symm).1; omega).trans (Below.heap_alloc _ _ _ (by have := h.hb; omega))
theorem PaG.bblk {w2 : World} {v' : Value} {y : Int} (g : PaG w wr w2 ps R B S base x sv v' l y) : w2.heap[B]? = some (.cells #[.int .i64 x, sv] 36 (0, 0)) := by
  obtain ⟨o, hg⟩ := g.grew
  exact (g.h.keeps hg g.h.hB).trans g.h.bblk
theorem PaG.done {w2 : World} {v' : Value} {y : Int} (g : PaG w wr w2 ps R B S base x sv v' l y) : PaI w (w2.setCell ⟨B, 1, none⟩ v') ps R B S base x v' (l ++ [y]) := by
  obtain ⟨o, hg⟩ := g.grew
  have hb2 := g.bblk
  have hs : (w2.setCell ⟨B, 1, none⟩ v').heap.size = w2.heap.size := by simp [World.setCell]
  have hsz : wr.heap.size ≤ w2.heap.size := by have := hg.size; simp at this; omega
  have h := g.h
  refine ⟨(heap_setCell_other _ _ _ _ h.rb).trans ((h.keeps hg h.hR).trans h.rblk), heap_setCell_same _ _ _ _ _ _ hb2, h.strs.same (by omega) ((heap_setCell_other _ _ _ _ h.sb).trans (h.keeps hg h.hS)), ?_, h.rb, h.sb, h.wb, h.wR, h.hR, h.hB, h.hS, by rw [hs]; have := h.hb; omega, below_setCell ?_ h.wb _ _⟩
  · have ho : w2.ownsRow base 3 1 v' (l ++ [y]).length ((l ++ [y]).map (Value.int .i64)) := by rw [List.length_append, List.length_singleton, List.map_append]; exact g.own
    exact ho.kept (grownBy_setC w2 ⟨B, 1, none⟩ _) (by cases hv : v'.ownBlock with
      | none => exact .inl rfl
      | some q => exact .inr (by have h1 := (ho.lt q hv).1; have h2 := h.hB; intro e; have := Option.some.inj e; simp at this; omega))
  · refine ⟨hg.os.trans h.below.os, hg.tape.trans h.below.tape, hg.output.trans h.below.output, Nat.le_trans h.below.size hsz, fun k hk => ?_⟩
    exact (h.keeps hg (by have := h.wb; have := h.hB; omega)).trans (h.below.block k hk)
/-- The codes are returned. -/
theorem PaI.ret (h : PaI w wr ps R B S base x sv l) (v : Value) (i : Nat) : Below w.heap.size w (wr.setCell ⟨R, i, none⟩ v) := below_setCell h.below h.wR i v
theorem PaI.later {wx : World} (h : PaI w wr ps R B S base x sv l) (hb : Below wr.heap.size wr wx) : PaI w wx ps R B S base x sv l :=
  ⟨(hb.block _ (by have := h.hR; have := h.hb; omega)).trans h.rblk, (hb.block _ (by have := h.hB; have := h.hb; omega)).trans h.bblk, h.strs.below hb, ownsRow_below h.own hb, h.rb, h.sb, h.wb, h.wR, h.hR, h.hB, h.hS, Nat.le_trans h.hb hb.size, h.below.trans (hb.mono h.below.size)⟩
end
theorem cell_int_new {W : World} {b : Nat} {x : Int} {t : TypeId} (h : W.heap[b]? = some (.cells #[.int .i64 x] t (0, 0))) : ∀ (j : Nat) (u : Value), [Value.int .i64 x][j]? = some u → W.cell? ((⟨b, 0, none⟩ : Addr).add j) = some u := by
  intro j u hu
  rw [add_none, cells_at h]
  rw [← hu]
  simp
theorem info3i : (Tryd.prog.info? 3).map (fun i => (i.zero, i.size, i.bytes)) = some (some (.int .i64 0), 1, 8) := by kernel_rfl
theorem under27 : Tryd.prog.underlying 27 = some (.slice 3) := by kernel_rfl
theorem own_form {W : World} {base n : Nat} {sv : Value} {xs : List Value} (h : W.ownsRow base 3 1 sv n xs) : ∃ a c, sv = .slice a n c := by
  rcases h.2 with ⟨rfl, rfl⟩ | ⟨g, cap, _, rfl, _⟩
  · exact ⟨none, 0, rfl⟩
  · exact ⟨some ⟨g, 0, none⟩, cap, rfl⟩
theorem row_ret {W : World} {ao : Option Addr} {l : List Int} {R i j : Nat} {v u : Value} {base : Nat} {cap : Nat} (h : IntRow W ao l) (ho : W.ownsRow base 3 1 (.slice ao l.length cap) l.length (l.map (Value.int .i64))) (hR : R < base) : IntRow ((W.setCell ⟨R, i, none⟩ v).setCell ⟨R, j, none⟩ u) ao l := by
  rcases h with h | ⟨b, off, rfl, h1, h2⟩
  · exact .inl h
  · by_cases hl : l = []
    · exact .inl hl
    · have hb : base ≤ b := by
        rcases ho.2 with ⟨hv, h0⟩ | ⟨g, cap, cur, hv, hb, _⟩
        · exact absurd (List.eq_nil_of_length_eq_zero h0) hl
        · simp only [Value.slice.injEq, Option.some.injEq, Addr.mk.injEq] at hv
          omega
      exact .inr ⟨b, off, rfl, by simpa [World.setCell] using h1, fun k hk => (World.cell?_of_block ((heap_setCell_other _ ⟨R, j, none⟩ b u (by simp only; omega)).trans (heap_setCell_other _ ⟨R, i, none⟩ b v (by simp only; omega)))).trans (h2 k hk)⟩

set_option maxRecDepth 100000 in
set_option maxHeartbeats 8000000 in
theorem parse_any (t : ByteArray) (w : World) (h : Env w) (hs : t.size ≤ 2000) :
    Calls Tryd.prog 24 #[.string t] w (ParsePost w t) := by
  have HOK : Hid (prsOk t = (allN (numsP (partsB t)) && validC ((numsP (partsB t)).headD 0) (numsP (partsB t)).tail)) := Lib.hid rfl
  have SP := Lib.hid fun wx (hx : Below w.heap.size w wx) => split_any t wx (h.below hx) hs
  have HN := Lib.hid (parts_len t hs)
  have s1 : ¬ (65536 : Int) < (t.size : Int) := by omega
  have s2 : decide ((65536 : Int) < (t.size : Int)) = false := decide_eq_false s1
  have HE := Lib.hid fun wx (hx : Below w.heap.size w wx) => h.below hx
  clear h hs
  obtain ⟨ps, hps⟩ : ∃ ps, partsB t = ps := ⟨_, rfl⟩
  rw [hps] at HOK SP HN
  have HPS := Lib.hid hps
  clear hps
  obtain ⟨i0, hi0, hz0, hz1, hz2⟩ := info_parts info3i
  have HB0 : ∀ o o', Hid (Below w.heap.size w ((w.alloc o).alloc o')) := fun o o' => Lib.hid (((Below.refl _ _).alloc (Nat.le_refl _) _).alloc (by simp) _)
  go_enter Tryd.func24, Tryd.ntmps24
  go_wp2_with (go_at_call 43; refine (SP.out _ (HB0 _ _).out).mono ?_; rintro e w1 ⟨S, c, rfl, hS, hst, hb1⟩)
  have hI0 : PaI w w1 ps w.heap.size (w.heap.size + 1) S w1.heap.size 0 (.slice none 0 0) [] := by
    have e0 := hb1.size
    simp at e0 hS
    have hb0 := HB0 (.cells #[.int .i64 0, .slice none 0 0] 36) (.cells #[.int .i64 0, .slice none 0 0] 36)
    refine ⟨(hb1.block _ (by simp; omega)).trans ((Below.heap_alloc _ _ _ (by simp)).trans (World.alloc_heap_new w _)), (hb1.block _ (by simp)).trans ?_, hst, by simpa using World.ownsRow_nil _ _ _ _, by omega, by omega, by omega, by omega, by omega, by omega, hst.1, Nat.le_refl _, hb0.out.trans (hb1.mono hb0.out.size)⟩
    have := World.alloc_heap_new (w.alloc (.cells #[.int .i64 0, .slice none 0 0] 36)) (.cells #[.int .i64 0, .slice none 0 0] 36)
    rwa [World.size_alloc] at this
  have HI0 := Lib.hid hI0
  clear hS hst hb1 hI0
  go_loopw [3, 16] (fun r i wr => r = .int .i64 0 ∧ ∃ k : Nat, i = .int .i64 k ∧ k ≤ ps.length ∧ allN (numsP (ps.take k)) = true ∧ ∃ sv, PaI w wr ps w.heap.size (w.heap.size + 1) S w1.heap.size ((numsP (ps.take k)).headD 0) sv (numsP (ps.take k)).tail) (fun _ i _ => ps.length - (intOf i).toNat)
  case atStart => exact ⟨rfl, 0, rfl, Nat.zero_le _, rfl, _, HI0.out⟩
  case round =>
    obtain ⟨rfl, k, rfl, hk, hall, sv, hinv⟩ := hrel
    have HI := Lib.hid hinv
    have HA := Lib.hid hall
    clear hinv hall
    by_cases hlt : k < ps.length
    · obtain ⟨nm, hx⟩ : ∃ nm, ps[k]? = some nm := ⟨_, List.getElem?_eq_getElem hlt⟩
      have c0 := HI.out.strs.2 k nm hx
      have HX := Lib.hid hx
      have HLT := Lib.hid hlt
      have hk1 : (k : Int) < (ps.length : Int) := by omega
      have hk2 : (k : Int) + 1 ≤ 2002 := by have := HN.out; omega
      have hk0 : (0 : Int) ≤ (k : Int) := by omega
      have HK3 : Hid (k ≤ 2001) := Lib.hid (by have := HN.out; omega)
      have r0 := cells_at HI.out.rblk 0
      have r1 := cells_at HI.out.rblk 1
      have b0 := cells_at HI.out.bblk 0
      have b1 := cells_at HI.out.bblk 1
      have fr0 := frozen_at HI.out.rblk 0
      have fr1 := frozen_at HI.out.rblk 1
      have fb0 := frozen_at HI.out.bblk 0
      have fb1 := frozen_at HI.out.bblk 1
      have lr := blk_lt HI.out.rblk
      have lb := blk_lt HI.out.bblk
      have ST := Lib.hid (set_any nm wr (HE.out _ HI.out.below).names)
      clear hx
      by_cases hz : setN nm = 0
      · have HBAD : Hid (prsOk t = false) := Lib.hid (by rw [HOK.out, allN_bad HX.out hz]; rfl)
        have hse : setE nm = 5 := by unfold setE; rw [if_pos hz]
        have HT : Hid (∀ (e : Ending), SetPost nm e → e = .returned (.tuple #[.int .i64 0, .int .i64 5])) := Lib.hid fun e he => by rw [SetPost] at he; rw [he, hz, hse]
        clear hz hse
        go_wp2_with (go_at_call 27; refine ST.out.mono ?_; rintro e w2 ⟨he, rfl⟩; obtain rfl := HT.out _ he; clear he)
        refine bodyPost_ret (v := .tuple #[.agg #[.int .i64 0, .slice none 0 0], .int .i64 2]) ?_ rfl (ParsePost.bad HBAD.out rfl (below_setCell (HI.out.ret _ _) HI.out.wR _ _))
        rw [results_cell_tmp rfl]
        go_simp
      · have hse : setE nm = 0 := by unfold setE; rw [if_neg hz]
        have HZ := Lib.hid (allN_next HX.out HA.out hz)
        obtain ⟨y, hy⟩ : ∃ y, setN nm = y := ⟨_, rfl⟩
        have HY := Lib.hid hy
        have HT : Hid (∀ (e : Ending), SetPost nm e → e = .returned (.tuple #[.int .i64 y, .int .i64 0])) := Lib.hid fun e he => by rw [SetPost] at he; rw [he, hy, hse]
        clear hz hse hy
        by_cases h0 : k = 0
        · subst h0
          have HN1 : Hid (numsP (ps.take 1) = [y]) := Lib.hid (by
            cases ps with
            | nil => simp at hlt
            | cons a r =>
              have := HX.out
              simp at this
              subst this
              simp [numsP, HY.out])
          go_wp2_with (go_at_call 27; refine ST.out.mono ?_; rintro e w2 ⟨he, rfl⟩; obtain rfl := HT.out _ he; clear he)
          go_roundw
          case rel => exact ⟨by trivial, 1, by go_num, HLT.out, HZ.out, sv, by rw [HN1.out]; exact HI.out.native y⟩
          case measure => simp [intOf]; have := HLT.out; omega
        · have e3 : ¬ (k : Int) = 0 := by omega
          have e4 : decide ((k : Int) = 0) = false := decide_eq_false e3
          have HNT := Lib.hid (nums_tail HX.out (by omega : 1 ≤ k))
          have HNH : Hid ((numsP (ps.take (k + 1))).headD 0 = (numsP (ps.take k)).headD 0) := Lib.hid (by rw [nums_head (by omega), nums_head (by omega)])
          have HLN : Hid ((numsP (ps.take k)).tail.length ≤ 2001) := Lib.hid (by unfold numsP; rw [List.length_tail, List.length_map, List.length_take]; have := HN.out; omega)
          obtain ⟨l, hl⟩ : ∃ l, (numsP (ps.take k)).tail = l := ⟨_, rfl⟩
          obtain ⟨x, hxx⟩ : ∃ x, (numsP (ps.take k)).headD 0 = x := ⟨_, rfl⟩
          rw [hl] at HI HNT HLN
          rw [hxx] at HI HNH b0
          clear hl hxx h0
          go_wp2_with (first
            | (go_at_call 27; refine ST.out.mono ?_; rintro e w2 ⟨he, rfl⟩; obtain rfl := HT.out _ he; clear he)
            | (at_builtin; refine wpList_append_own_at _ rfl _ _ 27 rfl w1.heap.size 3 i0 (.int .i64 0) 1 8 under27 hi0 hz0 hz1 hz2 rfl (by decide) _ _ _ rfl (HI.out.own.alloc _) ⟨wr.heap.size, 0, none⟩ 1 1 [.int .i64 y] rfl (by simp) (cell_int_new (World.alloc_heap_new _ _)) (by simp [Value.oneCell']) (by have := HLN.out; unfold maxLen; omega) (by have := HLN.out; omega) (by have := HI.out.hb; simp; omega) ?_; intro v' w3 hown' hgrow _ _; obtain ⟨av, cv, rfl⟩ := own_form hown'; have HG3 := Lib.hid (PaG.mk (y := y) HI.out hown' ⟨_, hgrow⟩); clear hown' hgrow; have b0' := cells_at HG3.out.bblk 0; have b1' := cells_at HG3.out.bblk 1; have fb1' := frozen_at HG3.out.bblk 1; have lb' := blk_lt HG3.out.bblk))
          go_roundw
          case rel => exact ⟨by trivial, k + 1, by go_num, HLT.out, HZ.out, _, by rw [HNH.out, HNT.out, HY.out]; exact HG3.out.done⟩
          case measure => simp [intOf]; have := HLT.out; omega
    · obtain rfl : k = ps.length := by omega
      rw [List.take_length] at HI HA
      have r0 := cells_at HI.out.rblk 0
      have r1 := cells_at HI.out.rblk 1
      have b0 := cells_at HI.out.bblk 0
      have b1 := cells_at HI.out.bblk 1
      have fr0 := frozen_at HI.out.rblk 0
      have fr1 := frozen_at HI.out.rblk 1
      have lr := blk_lt HI.out.rblk
      obtain ⟨x, hxx⟩ : ∃ x, (numsP ps).headD 0 = x := ⟨_, rfl⟩
      obtain ⟨l, hl⟩ : ∃ l, (numsP ps).tail = l := ⟨_, rfl⟩
      rw [hxx, hl] at HI HOK
      rw [hxx] at b0
      have HXX := Lib.hid hxx
      have HL := Lib.hid hl
      obtain ⟨ao, cap, rfl, hcap, hrow⟩ := row_of_own HI.out.own
      have VA := Lib.hid (valid_any x ao cap l wr hrow hcap)
      have HROW := Lib.hid hrow
      have HCAP := Lib.hid hcap
      rw [HA.out, Bool.true_and] at HOK
      clear hxx hl hcap hrow
      cases hv : validC x l with
      | false =>
        rw [hv] at VA HOK
        have HBAD : Hid (prsOk t = false) := HOK
        clear hv
        go_wp2_with (go_at_call 21; refine VA.out.mono ?_; rintro e w2 ⟨rfl, hb2⟩; have HB2 := Lib.hid hb2; clear hb2; have q0 := cells_at (HI.out.later HB2.out).rblk 0; have q1 := cells_at (HI.out.later HB2.out).rblk 1; have q2 := frozen_at (HI.out.later HB2.out).rblk 0; have q3 := frozen_at (HI.out.later HB2.out).rblk 1; have q4 := blk_lt (HI.out.later HB2.out).rblk)
        refine bodyPost_ret (v := .tuple #[.agg #[.int .i64 0, .slice none 0 0], .int .i64 2]) ?_ rfl (ParsePost.bad HBAD.out rfl (below_setCell ((HI.out.later HB2.out).ret _ _) HI.out.wR _ _))
        rw [results_cell_tmp rfl]
        go_simp
      | true =>
        rw [hv] at VA HOK
        clear hv
        go_wp2_with (go_at_call 21; refine VA.out.mono ?_; rintro e w2 ⟨rfl, hb2⟩; have HB2 := Lib.hid hb2; clear hb2; have q0 := cells_at (HI.out.later HB2.out).rblk 0; have q1 := cells_at (HI.out.later HB2.out).rblk 1; have q2 := frozen_at (HI.out.later HB2.out).rblk 0; have q3 := frozen_at (HI.out.later HB2.out).rblk 1; have q4 := blk_lt (HI.out.later HB2.out).rblk; have q5 := cells_at (HI.out.later HB2.out).bblk 0; have q6 := cells_at (HI.out.later HB2.out).bblk 1)
        refine bodyPost_ret (v := .tuple #[.agg #[.int .i64 x, .slice ao l.length cap], .int .i64 0]) ?_ rfl (ParsePost.good HPS.out HXX.out HL.out HOK.out rfl HCAP.out (row_ret (HROW.out.below HB2.out) (HI.out.later HB2.out).own HI.out.hR) (below_setCell ((HI.out.later HB2.out).ret _ _) HI.out.wR _ _))
        rw [results_cell_tmp rfl]
        go_simp

set_option maxRecDepth 100000 in
set_option maxHeartbeats 8000000 in
theorem rparse_any (t : ByteArray) (w : World) (h : Env w) (hs : t.size ≤ 2000) :
    Calls Tryd.prog 26 #[.string t] w (ParsePost w t) := by
  have HOK : Hid (prsOk t = (allN (numsP (partsB t)) && validC ((numsP (partsB t)).headD 0) (numsP (partsB t)).tail)) := Lib.hid rfl
  have SP := Lib.hid fun wx (hx : Below w.heap.size w wx) => split_any t wx (h.below hx) hs
  have HN := Lib.hid (parts_len t hs)
  have s1 : ¬ (65536 : Int) < (t.size : Int) := by omega
  have s2 : decide ((65536 : Int) < (t.size : Int)) = false := decide_eq_false s1
  have HE := Lib.hid fun wx (hx : Below w.heap.size w wx) => h.below hx
  clear h hs
  obtain ⟨ps, hps⟩ : ∃ ps, partsB t = ps := ⟨_, rfl⟩
  rw [hps] at HOK SP HN
  have HPS := Lib.hid hps
  clear hps
  obtain ⟨i0, hi0, hz0, hz1, hz2⟩ := info_parts info3i
  have HB0 : ∀ o o', Hid (Below w.heap.size w ((w.alloc o).alloc o')) := fun o o' => Lib.hid (((Below.refl _ _).alloc (Nat.le_refl _) _).alloc (by simp) _)
  go_enter Tryd.func26, Tryd.ntmps26
  go_wp2_with (go_at_call 43; refine (SP.out _ (HB0 _ _).out).mono ?_; rintro e w1 ⟨S, c, rfl, hS, hst, hb1⟩)
  have hI0 : PaI w w1 ps w.heap.size (w.heap.size + 1) S w1.heap.size 0 (.slice none 0 0) [] := by
    have e0 := hb1.size
    simp at e0 hS
    have hb0 := HB0 (.cells #[.int .i64 0, .slice none 0 0] 36) (.cells #[.int .i64 0, .slice none 0 0] 36)
    refine ⟨(hb1.block _ (by simp; omega)).trans ((Below.heap_alloc _ _ _ (by simp)).trans (World.alloc_heap_new w _)), (hb1.block _ (by simp)).trans ?_, hst, by simpa using World.ownsRow_nil _ _ _ _, by omega, by omega, by omega, by omega, by omega, by omega, hst.1, Nat.le_refl _, hb0.out.trans (hb1.mono hb0.out.size)⟩
    have := World.alloc_heap_new (w.alloc (.cells #[.int .i64 0, .slice none 0 0] 36)) (.cells #[.int .i64 0, .slice none 0 0] 36)
    rwa [World.size_alloc] at this
  have HI0 := Lib.hid hI0
  clear hS hst hb1 hI0
  go_loopw [3, 16] (fun r i wr => r = .int .i64 0 ∧ ∃ k : Nat, i = .int .i64 k ∧ k ≤ ps.length ∧ allN (numsP (ps.take k)) = true ∧ ∃ sv, PaI w wr ps w.heap.size (w.heap.size + 1) S w1.heap.size ((numsP (ps.take k)).headD 0) sv (numsP (ps.take k)).tail) (fun _ i _ => ps.length - (intOf i).toNat)
  case atStart => exact ⟨rfl, 0, rfl, Nat.zero_le _, rfl, _, HI0.out⟩
  case round =>
    obtain ⟨rfl, k, rfl, hk, hall, sv, hinv⟩ := hrel
    have HI := Lib.hid hinv
    have HA := Lib.hid hall
    clear hinv hall
    by_cases hlt : k < ps.length
    · obtain ⟨nm, hx⟩ : ∃ nm, ps[k]? = some nm := ⟨_, List.getElem?_eq_getElem hlt⟩
      have c0 := HI.out.strs.2 k nm hx
      have HX := Lib.hid hx
      have HLT := Lib.hid hlt
      have hk1 : (k : Int) < (ps.length : Int) := by omega
      have hk2 : (k : Int) + 1 ≤ 2002 := by have := HN.out; omega
      have hk0 : (0 : Int) ≤ (k : Int) := by omega
      have HK3 : Hid (k ≤ 2001) := Lib.hid (by have := HN.out; omega)
      have r0 := cells_at HI.out.rblk 0
      have r1 := cells_at HI.out.rblk 1
      have b0 := cells_at HI.out.bblk 0
      have b1 := cells_at HI.out.bblk 1
      have fr0 := frozen_at HI.out.rblk 0
      have fr1 := frozen_at HI.out.rblk 1
      have fb0 := frozen_at HI.out.bblk 0
      have fb1 := frozen_at HI.out.bblk 1
      have lr := blk_lt HI.out.rblk
      have lb := blk_lt HI.out.bblk
      have ST := Lib.hid (rset_any nm wr)
      clear hx
      by_cases hz : setN nm = 0
      · have HBAD : Hid (prsOk t = false) := Lib.hid (by rw [HOK.out, allN_bad HX.out hz]; rfl)
        have hse : setE nm = 5 := by unfold setE; rw [if_pos hz]
        have HT : Hid (∀ (e : Ending), SetPost nm e → e = .returned (.tuple #[.int .i64 0, .int .i64 5])) := Lib.hid fun e he => by rw [SetPost] at he; rw [he, hz, hse]
        clear hz hse
        go_wp2_with (go_at_call 28; refine ST.out.mono ?_; rintro e w2 ⟨he, rfl⟩; obtain rfl := HT.out _ he; clear he)
        refine bodyPost_ret (v := .tuple #[.agg #[.int .i64 0, .slice none 0 0], .int .i64 2]) ?_ rfl (ParsePost.bad HBAD.out rfl (below_setCell (HI.out.ret _ _) HI.out.wR _ _))
        rw [results_cell_tmp rfl]
        go_simp
      · have hse : setE nm = 0 := by unfold setE; rw [if_neg hz]
        have HZ := Lib.hid (allN_next HX.out HA.out hz)
        obtain ⟨y, hy⟩ : ∃ y, setN nm = y := ⟨_, rfl⟩
        have HY := Lib.hid hy
        have HT : Hid (∀ (e : Ending), SetPost nm e → e = .returned (.tuple #[.int .i64 y, .int .i64 0])) := Lib.hid fun e he => by rw [SetPost] at he; rw [he, hy, hse]
        clear hz hse hy
        by_cases h0 : k = 0
        · subst h0
          have HN1 : Hid (numsP (ps.take 1) = [y]) := Lib.hid (by
            cases ps with
            | nil => simp at hlt
            | cons a r =>
              have := HX.out
              simp at this
              subst this
              simp [numsP, HY.out])
          go_wp2_with (go_at_call 28; refine ST.out.mono ?_; rintro e w2 ⟨he, rfl⟩; obtain rfl := HT.out _ he; clear he)
          go_roundw
          case rel => exact ⟨by trivial, 1, by go_num, HLT.out, HZ.out, sv, by rw [HN1.out]; exact HI.out.native y⟩
          case measure => simp [intOf]; have := HLT.out; omega
        · have e3 : ¬ (k : Int) = 0 := by omega
          have e4 : decide ((k : Int) = 0) = false := decide_eq_false e3
          have HNT := Lib.hid (nums_tail HX.out (by omega : 1 ≤ k))
          have HNH : Hid ((numsP (ps.take (k + 1))).headD 0 = (numsP (ps.take k)).headD 0) := Lib.hid (by rw [nums_head (by omega), nums_head (by omega)])
          have HLN : Hid ((numsP (ps.take k)).tail.length ≤ 2001) := Lib.hid (by unfold numsP; rw [List.length_tail, List.length_map, List.length_take]; have := HN.out; omega)
          obtain ⟨l, hl⟩ : ∃ l, (numsP (ps.take k)).tail = l := ⟨_, rfl⟩
          obtain ⟨x, hxx⟩ : ∃ x, (numsP (ps.take k)).headD 0 = x := ⟨_, rfl⟩
          rw [hl] at HI HNT HLN
          rw [hxx] at HI HNH b0
          clear hl hxx h0
          go_wp2_with (first
            | (go_at_call 28; refine ST.out.mono ?_; rintro e w2 ⟨he, rfl⟩; obtain rfl := HT.out _ he; clear he)
            | (at_builtin; refine wpList_append_own_at _ rfl _ _ 27 rfl w1.heap.size 3 i0 (.int .i64 0) 1 8 under27 hi0 hz0 hz1 hz2 rfl (by decide) _ _ _ rfl (HI.out.own.alloc _) ⟨wr.heap.size, 0, none⟩ 1 1 [.int .i64 y] rfl (by simp) (cell_int_new (World.alloc_heap_new _ _)) (by simp [Value.oneCell']) (by have := HLN.out; unfold maxLen; omega) (by have := HLN.out; omega) (by have := HI.out.hb; simp; omega) ?_; intro v' w3 hown' hgrow _ _; obtain ⟨av, cv, rfl⟩ := own_form hown'; have HG3 := Lib.hid (PaG.mk (y := y) HI.out hown' ⟨_, hgrow⟩); clear hown' hgrow; have b0' := cells_at HG3.out.bblk 0; have b1' := cells_at HG3.out.bblk 1; have fb1' := frozen_at HG3.out.bblk 1; have lb' := blk_lt HG3.out.bblk))
          go_roundw
          case rel => exact ⟨by trivial, k + 1, by go_num, HLT.out, HZ.out, _, by rw [HNH.out, HNT.out, HY.out]; exact HG3.out.done⟩
          case measure => simp [intOf]; have := HLT.out; omega
    · obtain rfl : k = ps.length := by omega
      rw [List.take_length] at HI HA
      have r0 := cells_at HI.out.rblk 0
      have r1 := cells_at HI.out.rblk 1
      have b0 := cells_at HI.out.bblk 0
      have b1 := cells_at HI.out.bblk 1
      have fr0 := frozen_at HI.out.rblk 0
      have fr1 := frozen_at HI.out.rblk 1
      have lr := blk_lt HI.out.rblk
      obtain ⟨x, hxx⟩ : ∃ x, (numsP ps).headD 0 = x := ⟨_, rfl⟩
      obtain ⟨l, hl⟩ : ∃ l, (numsP ps).tail = l := ⟨_, rfl⟩
      rw [hxx, hl] at HI HOK
      rw [hxx] at b0
      have HXX := Lib.hid hxx
      have HL := Lib.hid hl
      obtain ⟨ao, cap, rfl, hcap, hrow⟩ := row_of_own HI.out.own
      have VA := Lib.hid (rvalid_any x ao cap l wr hrow hcap)
      have HROW := Lib.hid hrow
      have HCAP := Lib.hid hcap
      rw [HA.out, Bool.true_and] at HOK
      clear hxx hl hcap hrow
      cases hv : validC x l with
      | false =>
        rw [hv] at VA HOK
        have HBAD : Hid (prsOk t = false) := HOK
        clear hv
        go_wp2_with (go_at_call 22; refine VA.out.mono ?_; rintro e w2 ⟨rfl, hb2⟩; have HB2 := Lib.hid hb2; clear hb2; have q0 := cells_at (HI.out.later HB2.out).rblk 0; have q1 := cells_at (HI.out.later HB2.out).rblk 1; have q2 := frozen_at (HI.out.later HB2.out).rblk 0; have q3 := frozen_at (HI.out.later HB2.out).rblk 1; have q4 := blk_lt (HI.out.later HB2.out).rblk)
        refine bodyPost_ret (v := .tuple #[.agg #[.int .i64 0, .slice none 0 0], .int .i64 2]) ?_ rfl (ParsePost.bad HBAD.out rfl (below_setCell ((HI.out.later HB2.out).ret _ _) HI.out.wR _ _))
        rw [results_cell_tmp rfl]
        go_simp
      | true =>
        rw [hv] at VA HOK
        clear hv
        go_wp2_with (go_at_call 22; refine VA.out.mono ?_; rintro e w2 ⟨rfl, hb2⟩; have HB2 := Lib.hid hb2; clear hb2; have q0 := cells_at (HI.out.later HB2.out).rblk 0; have q1 := cells_at (HI.out.later HB2.out).rblk 1; have q2 := frozen_at (HI.out.later HB2.out).rblk 0; have q3 := frozen_at (HI.out.later HB2.out).rblk 1; have q4 := blk_lt (HI.out.later HB2.out).rblk; have q5 := cells_at (HI.out.later HB2.out).bblk 0; have q6 := cells_at (HI.out.later HB2.out).bblk 1)
        refine bodyPost_ret (v := .tuple #[.agg #[.int .i64 x, .slice ao l.length cap], .int .i64 0]) ?_ rfl (ParsePost.good HPS.out HXX.out HL.out HOK.out rfl HCAP.out (row_ret (HROW.out.below HB2.out) (HI.out.later HB2.out).own HI.out.hR) (below_setCell ((HI.out.later HB2.out).ret _ _) HI.out.wR _ _))
        rw [results_cell_tmp rfl]
        go_simp

end Go.Proofs.YtnebjdjebnphnaaDoor
