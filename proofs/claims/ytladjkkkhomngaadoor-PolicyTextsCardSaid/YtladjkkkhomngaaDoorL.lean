/- The contract of policy.Clashes for a valid row. -/
import Derived.Test.YtladjkkkhomngaaDoorK
import Derived.Laws.EntriesVeiled
namespace Go.Proofs.YtladjkkkhomngaaDoor
set_option maxRecDepth 8000
open Go.RowKit Go.Sort Go.BigFrame

theorem Tryd.info38 : (Tryd.prog.info? 48).map (fun i => (i.zero, i.size, i.bytes)) = some (some (.agg #[.int .i64 0, .int .i64 0]), 2, 16) := by kernel_rfl
theorem under35 : Tryd.prog.underlying 43 = some (.slice 48) := by kernel_rfl

/-- The n-th pair of kinds. -/
def clK (n : Nat) : Int × Int := if n = 0 then (3, 6) else if n = 1 then (4, 7) else if n = 2 then (5, 6) else if n = 3 then (5, 7) else if n = 4 then (8, 11) else if n = 5 then (9, 11) else (10, 13)
/-- Does the n-th pair clash in a row? -/
def clAt (l : List PolD) (n : Nat) : Bool := clB n (valOf l (clK n).1) (valOf l (clK n).2)
/-- The pairs that clash among the first n. -/
def clTo (l : List PolD) : Nat → List (Int × Int)
  | 0 => []
  | n + 1 => if clAt l n = true then clTo l n ++ [clK n] else clTo l n
/-- Pairs as cells. -/
def pairCells (l : List (Int × Int)) : List Value := l.flatMap fun p => [.int .i64 p.1, .int .i64 p.2]
theorem pairCells_snoc (l : List (Int × Int)) (p : Int × Int) : pairCells (l ++ [p]) = pairCells l ++ [.int .i64 p.1, .int .i64 p.2] := by simp [pairCells]
theorem clTo_len (l : List PolD) : ∀ n, (clTo l n).length ≤ n
  | 0 => Nat.le_refl _
  | n + 1 => by
    have := clTo_len l n
    unfold clTo
    split
    · simp; omega
    · omega
theorem clTo_yes {l : List PolD} {n : Nat} (h : clAt l n = true) : clTo l (n + 1) = clTo l n ++ [clK n] := by rw [clTo, if_pos h]
theorem clTo_no {l : List PolD} {n : Nat} (h : clAt l n = false) : clTo l (n + 1) = clTo l n := by rw [clTo, if_neg (by rw [h]; decide)]

/-- An entry of the table of clashes in a block of its own. -/
theorem tri_at {W : World} {g : Nat} {x y : Int} {f : Nat} (h : W.heap[g]? = some (.cells #[.int .i64 x, .int .i64 y, .func (.func f) #[] #[]] 85 (0, 0))) : W.cell? ⟨g, 0, none⟩ = some (.int .i64 x) ∧ W.cell? ⟨g, 1, none⟩ = some (.int .i64 y) ∧ W.cell? ⟨g, 2, none⟩ = some (.func (.func f) #[] #[]) := by
  simp [World.cell?, h]
theorem tri_c0 (x y : Int) (f : Nat) (w : World) : (w.alloc (.cells #[.int .i64 x, .int .i64 y, .func (.func f) #[] #[]] 85)).cell? ⟨w.heap.size, 0, none⟩ = some (.int .i64 x) := (tri_at (heap_alloc_new _ _)).1
theorem tri_c1 (x y : Int) (f : Nat) (w : World) : (w.alloc (.cells #[.int .i64 x, .int .i64 y, .func (.func f) #[] #[]] 85)).cell? ⟨w.heap.size, 1, none⟩ = some (.int .i64 y) := (tri_at (heap_alloc_new _ _)).2.1
theorem tri_c2 (x y : Int) (f : Nat) (w : World) : (w.alloc (.cells #[.int .i64 x, .int .i64 y, .func (.func f) #[] #[]] 85)).cell? ⟨w.heap.size, 2, none⟩ = some (.func (.func f) #[] #[]) := (tri_at (heap_alloc_new _ _)).2.2
theorem pair_at {W : World} {g : Nat} {x y : Int} (h : W.heap[g]? = some (.cells #[.int .i64 x, .int .i64 y] 48 (0, 0))) : W.cell? ⟨g, 0, none⟩ = some (.int .i64 x) ∧ W.cell? ⟨g, 1, none⟩ = some (.int .i64 y) := by
  simp [World.cell?, h]
theorem cell_pair_new {W : World} {b : Nat} {k v : Int} (h : W.heap[b]? = some (.cells #[.int .i64 k, .int .i64 v] 48 (0, 0))) : ∀ (j : Nat) (u : Value), [Value.int .i64 k, Value.int .i64 v][j]? = some u → W.cell? ((⟨b, 0, none⟩ : Addr).add j) = some u := by
  intro j u hu
  match j, hu with
  | 0, hu =>
    obtain rfl : Value.int .i64 k = u := by simpa using hu
    exact (pair_at h).1
  | 1, hu =>
    obtain rfl : Value.int .i64 v = u := by simpa using hu
    exact (pair_at h).2

/-- What a round of Clashes knows: the row of pairs, the table. -/
structure ClI (w wr : World) (l : List PolD) (bt k : Nat) (sv : Value) : Prop where
  own : wr.ownsRow w.heap.size 48 2 sv (clTo l k).length (pairCells (clTo l k))
  below : Below w.heap.size w wr
  tab : wr.heap[bt]? = some (.cells clCells 85 (0, 0))
  apart : sv.ownBlock ≠ some bt

theorem ClI.lt {w wr : World} {l : List PolD} {bt k : Nat} {sv : Value} (h : ClI w wr l bt k sv) : bt < wr.heap.size := (Array.getElem?_eq_some_iff.1 h.tab).1
theorem ClI.cell {w wr : World} {l : List PolD} {bt k : Nat} {sv : Value} (h : ClI w wr l bt k sv) (j : Nat) : wr.cell? ⟨bt, j, none⟩ = clCells[j]? := by simp [World.cell?, h.tab]
theorem ClI.later {w wr wx : World} {l : List PolD} {bt k : Nat} {sv : Value} (h : ClI w wr l bt k sv) (hb : Below wr.heap.size wr wx) : ClI w wx l bt k sv :=
  ⟨ownsRow_below h.own hb, h.below.trans (hb.mono h.below.size), (hb.block bt h.lt).trans h.tab, h.apart⟩
theorem ClI.no {w wr : World} {l : List PolD} {bt k : Nat} {sv : Value} (h : ClI w wr l bt k sv) (hc : clAt l k = false) : ClI w wr l bt (k + 1) sv :=
  ⟨by rw [clTo_no hc]; exact h.own, h.below, h.tab, h.apart⟩
theorem ClI.grown {w wr wx : World} {l : List PolD} {bt k : Nat} {sv sv' : Value} {x y : Int} (h : ClI w wr l bt k sv) (hg : wr.grownBy wx sv.ownBlock) (ho : wx.ownsRow w.heap.size 48 2 sv' ((clTo l k).length + 1) (pairCells (clTo l k) ++ [.int .i64 x, .int .i64 y]))
    (hat : sv'.ownBlock = sv.ownBlock ∨ sv'.ownBlock = some wr.heap.size) (hxy : clK k = (x, y)) (hc : clAt l k = true) : ClI w wx l bt (k + 1) sv' := by
  refine ⟨?_, ?_, ?_, ?_⟩
  · rw [clTo_yes hc, pairCells_snoc, List.length_append, hxy]
    exact ho
  · refine ⟨hg.os.trans h.below.os, hg.tape.trans h.below.tape, hg.output.trans h.below.output, Nat.le_trans h.below.size hg.size, fun j hj => (hg.block j (Nat.lt_of_lt_of_le hj h.below.size) fun e => ?_).trans (h.below.block j hj)⟩
    have := (h.own.lt j e.symm).1
    omega
  · exact (hg.block bt h.lt (fun e => h.apart e.symm)).trans h.tab
  · intro e
    rcases hat with h1 | h1
    · exact h.apart (h1.symm.trans e)
    · rw [h1] at e
      have := Option.some.inj e
      have := h.lt
      omega

set_option maxRecDepth 100000 in
set_option maxHeartbeats 4000000 in
theorem clashes_set (ao : Option Addr) (cap : Nat) (l : List PolD) (w : World) (hS : SortsAt w) (h : RowAt w ao l) (hl : l.length ≤ 9223372036854775807) (hok : okS l = true) :
    Calls Tryd.prog 31 #[.slice ao l.length cap] w fun e w' => ∃ sv bt, e = .returned (.tuple #[sv, .int .i64 0]) ∧ ClI w w' l bt 7 sv := by
  have VS := Lib.hid (validSet_any ao cap l w hS h hl)
  rw [hok] at VS
  have HS := Lib.hid hS
  have HR := Lib.hid h
  have HL := Lib.hid hl
  clear hS h hl hok
  obtain ⟨i0, hi, hz0, hz1, hz2⟩ := info_parts Tryd.info38
  go_enter Tryd.func31, Tryd.ntmps31
  go_wp2_with (first | (go_at_call 13; refine VS.out.mono ?_; rintro e w1 ⟨rfl, hb1⟩; have B1 := Lib.hid hb1; clear hb1) | (go_at_call 62; refine (clashes_any _).mono ?_; rintro e w2 ⟨bt, rfl, hbt, htab, hb2⟩; have B2 := Lib.hid (B1.out.trans (hb2.mono B1.out.size)); have HT := Lib.hid htab; clear hb2 hbt htab))
  have HI0 : Hid (ClI w w2 l bt 0 (.slice none 0 0)) := Lib.hid ⟨World.ownsRow_nil _ _ _ _, B2.out, HT.out, by simp [Value.ownBlock]⟩
  go_loopw [4, 16] (fun v i wr => ∃ k : Nat, i = .int .i64 k ∧ k ≤ 7 ∧ ClI w wr l bt k v) (fun _ i _ => 7 - (intOf i).toNat)
  case atStart => exact ⟨0, rfl, by omega, HI0.out⟩
  case round =>
    obtain ⟨k, rfl, hk, hinv⟩ := hrel
    have HI := Lib.hid hinv
    have hbt := hinv.lt
    have hbn : ¬ bt = wr.heap.size := by omega
    clear hinv
    have GE := Lib.hid fun q (hq : isK q = true) wx (hx : Below w.heap.size w wx) => get_any ao cap l q wx (HS.out.below hx HS.out.pos) hq (HR.out.below hx) HL.out
    by_cases hlt : k < 7
    · have hh : k = 0 ∨ k = 1 ∨ k = 2 ∨ k = 3 ∨ k = 4 ∨ k = 5 ∨ k = 6 := by omega
      clear hk hlt
      rcases hh with rfl | rfl | rfl | rfl | rfl | rfl | rfl
      · have c0 : wr.cell? ⟨bt, 0, none⟩ = some (.int .i64 3) := HI.out.cell 0
        have c1 : wr.cell? ⟨bt, 1, none⟩ = some (.int .i64 6) := HI.out.cell 1
        have c2 : wr.cell? ⟨bt, 2, none⟩ = some (.func (.func 77) #[] #[]) := HI.out.cell 2
        have HI1 := Lib.hid (HI.out.later ((Below.refl _ _).alloc (Nat.le_refl _) (.cells #[.int .i64 3, .int .i64 6, .func (.func 77) #[] #[]] 85)))
        have GA := Lib.hid fun wx hx => GE.out 3 (by decide) wx hx
        have GB := Lib.hid fun wx hx => GE.out 6 (by decide) wx hx
        obtain ⟨a, ha⟩ : ∃ a, valOf l 3 = a := ⟨_, rfl⟩
        obtain ⟨b, hb⟩ : ∃ b, valOf l 6 = b := ⟨_, rfl⟩
        rw [ha] at GA
        rw [hb] at GB
        obtain ⟨r, hr⟩ : ∃ r, clB 0 a b = r := ⟨_, rfl⟩
        have CL := Lib.hid fun wx => clash0 a b wx
        rw [hr] at CL
        have HC : Hid (clAt l 0 = r) := Lib.hid (by rw [← hr, ← ha, ← hb]; rfl)
        clear ha hb hr
        have HLK : Hid ((clTo l 0).length ≤ 7) := Lib.hid (by have := clTo_len l 0; omega)
        cases r
        · go_wp2_with (first | (go_at_call 40; (fail_if_success (have := B3)); refine (GA.out _ HI1.out.below).mono ?_; rintro e w3 ⟨rfl, hb3⟩; have B3 := Lib.hid hb3; have n1 := (hb3.cell (p := ⟨wr.heap.size, 1, none⟩) (by simp)).trans (tri_c1 3 6 77 wr); have n2 := (hb3.cell (p := ⟨wr.heap.size, 2, none⟩) (by simp)).trans (tri_c2 3 6 77 wr); have n0 := (hb3.cell (p := ⟨wr.heap.size, 0, none⟩) (by simp)).trans (tri_c0 3 6 77 wr); have hlt3 : wr.heap.size < w3.heap.size := Nat.lt_of_lt_of_le (by simp) hb3.size; have HI3 := Lib.hid (HI1.out.later hb3); clear hb3) | (go_at_call 40; refine (GB.out _ HI3.out.below).mono ?_; rintro e w4 ⟨rfl, hb4⟩; have m2 := (hb4.cell (p := ⟨wr.heap.size, 2, none⟩) hlt3).trans n2; have m0 := (hb4.cell (p := ⟨wr.heap.size, 0, none⟩) hlt3).trans n0; have m1 := (hb4.cell (p := ⟨wr.heap.size, 1, none⟩) hlt3).trans n1; have HI4 := Lib.hid (HI3.out.later hb4); clear hb4) | (go_at_call 77; refine (CL.out _).mono ?_; rintro e w5 ⟨rfl, rfl⟩))
          exact ⟨⟨1, rfl, by omega, HI4.out.no HC.out⟩, by simp [intOf]⟩
        · go_wp2_with (first | (go_at_call 40; (fail_if_success (have := B3)); refine (GA.out _ HI1.out.below).mono ?_; rintro e w3 ⟨rfl, hb3⟩; have B3 := Lib.hid hb3; have n1 := (hb3.cell (p := ⟨wr.heap.size, 1, none⟩) (by simp)).trans (tri_c1 3 6 77 wr); have n2 := (hb3.cell (p := ⟨wr.heap.size, 2, none⟩) (by simp)).trans (tri_c2 3 6 77 wr); have n0 := (hb3.cell (p := ⟨wr.heap.size, 0, none⟩) (by simp)).trans (tri_c0 3 6 77 wr); have hlt3 : wr.heap.size < w3.heap.size := Nat.lt_of_lt_of_le (by simp) hb3.size; have HI3 := Lib.hid (HI1.out.later hb3); clear hb3) | (go_at_call 40; refine (GB.out _ HI3.out.below).mono ?_; rintro e w4 ⟨rfl, hb4⟩; have m2 := (hb4.cell (p := ⟨wr.heap.size, 2, none⟩) hlt3).trans n2; have m0 := (hb4.cell (p := ⟨wr.heap.size, 0, none⟩) hlt3).trans n0; have m1 := (hb4.cell (p := ⟨wr.heap.size, 1, none⟩) hlt3).trans n1; have HI4 := Lib.hid (HI3.out.later hb4); clear hb4) | (go_at_call 77; refine (CL.out _).mono ?_; rintro e w5 ⟨rfl, rfl⟩) | (at_builtin; refine wpList_append_own_at _ rfl _ _ 43 rfl w.heap.size 48 i0 (.agg #[.int .i64 0, .int .i64 0]) 2 16 under35 hi hz0 hz1 hz2 rfl (by decide) _ _ _ rfl (HI4.out.own.alloc _) ⟨w4.heap.size, 0, none⟩ 1 1 [.int .i64 3, .int .i64 6] rfl rfl (cell_pair_new (heap_alloc_new _ _)) (by simp [Value.oneCell']) (by have := HLK.out; unfold maxLen; omega) (by have := HLK.out; omega) (by have := HI4.out.below.size; simp; omega) ?_; intro v' w6 hown' hgrow _ hat; have HI6 := Lib.hid (ClI.grown (HI4.out.later ((Below.refl _ _).alloc (Nat.le_refl _) _)) hgrow hown' hat rfl HC.out); clear hown' hgrow hat))
          exact ⟨⟨1, rfl, by omega, HI6.out⟩, by simp [intOf]⟩
      · have c0 : wr.cell? ⟨bt, 3, none⟩ = some (.int .i64 4) := HI.out.cell 3
        have c1 : wr.cell? ⟨bt, 4, none⟩ = some (.int .i64 7) := HI.out.cell 4
        have c2 : wr.cell? ⟨bt, 5, none⟩ = some (.func (.func 78) #[] #[]) := HI.out.cell 5
        have HI1 := Lib.hid (HI.out.later ((Below.refl _ _).alloc (Nat.le_refl _) (.cells #[.int .i64 4, .int .i64 7, .func (.func 78) #[] #[]] 85)))
        have GA := Lib.hid fun wx hx => GE.out 4 (by decide) wx hx
        have GB := Lib.hid fun wx hx => GE.out 7 (by decide) wx hx
        obtain ⟨a, ha⟩ : ∃ a, valOf l 4 = a := ⟨_, rfl⟩
        obtain ⟨b, hb⟩ : ∃ b, valOf l 7 = b := ⟨_, rfl⟩
        rw [ha] at GA
        rw [hb] at GB
        obtain ⟨r, hr⟩ : ∃ r, clB 1 a b = r := ⟨_, rfl⟩
        have CL := Lib.hid fun wx => clash1 a b wx
        rw [hr] at CL
        have HC : Hid (clAt l 1 = r) := Lib.hid (by rw [← hr, ← ha, ← hb]; rfl)
        clear ha hb hr
        have HLK : Hid ((clTo l 1).length ≤ 7) := Lib.hid (by have := clTo_len l 1; omega)
        cases r
        · go_wp2_with (first | (go_at_call 40; (fail_if_success (have := B3)); refine (GA.out _ HI1.out.below).mono ?_; rintro e w3 ⟨rfl, hb3⟩; have B3 := Lib.hid hb3; have n1 := (hb3.cell (p := ⟨wr.heap.size, 1, none⟩) (by simp)).trans (tri_c1 4 7 78 wr); have n2 := (hb3.cell (p := ⟨wr.heap.size, 2, none⟩) (by simp)).trans (tri_c2 4 7 78 wr); have n0 := (hb3.cell (p := ⟨wr.heap.size, 0, none⟩) (by simp)).trans (tri_c0 4 7 78 wr); have hlt3 : wr.heap.size < w3.heap.size := Nat.lt_of_lt_of_le (by simp) hb3.size; have HI3 := Lib.hid (HI1.out.later hb3); clear hb3) | (go_at_call 40; refine (GB.out _ HI3.out.below).mono ?_; rintro e w4 ⟨rfl, hb4⟩; have m2 := (hb4.cell (p := ⟨wr.heap.size, 2, none⟩) hlt3).trans n2; have m0 := (hb4.cell (p := ⟨wr.heap.size, 0, none⟩) hlt3).trans n0; have m1 := (hb4.cell (p := ⟨wr.heap.size, 1, none⟩) hlt3).trans n1; have HI4 := Lib.hid (HI3.out.later hb4); clear hb4) | (go_at_call 78; refine (CL.out _).mono ?_; rintro e w5 ⟨rfl, rfl⟩))
          exact ⟨⟨2, rfl, by omega, HI4.out.no HC.out⟩, by simp [intOf]⟩
        · go_wp2_with (first | (go_at_call 40; (fail_if_success (have := B3)); refine (GA.out _ HI1.out.below).mono ?_; rintro e w3 ⟨rfl, hb3⟩; have B3 := Lib.hid hb3; have n1 := (hb3.cell (p := ⟨wr.heap.size, 1, none⟩) (by simp)).trans (tri_c1 4 7 78 wr); have n2 := (hb3.cell (p := ⟨wr.heap.size, 2, none⟩) (by simp)).trans (tri_c2 4 7 78 wr); have n0 := (hb3.cell (p := ⟨wr.heap.size, 0, none⟩) (by simp)).trans (tri_c0 4 7 78 wr); have hlt3 : wr.heap.size < w3.heap.size := Nat.lt_of_lt_of_le (by simp) hb3.size; have HI3 := Lib.hid (HI1.out.later hb3); clear hb3) | (go_at_call 40; refine (GB.out _ HI3.out.below).mono ?_; rintro e w4 ⟨rfl, hb4⟩; have m2 := (hb4.cell (p := ⟨wr.heap.size, 2, none⟩) hlt3).trans n2; have m0 := (hb4.cell (p := ⟨wr.heap.size, 0, none⟩) hlt3).trans n0; have m1 := (hb4.cell (p := ⟨wr.heap.size, 1, none⟩) hlt3).trans n1; have HI4 := Lib.hid (HI3.out.later hb4); clear hb4) | (go_at_call 78; refine (CL.out _).mono ?_; rintro e w5 ⟨rfl, rfl⟩) | (at_builtin; refine wpList_append_own_at _ rfl _ _ 43 rfl w.heap.size 48 i0 (.agg #[.int .i64 0, .int .i64 0]) 2 16 under35 hi hz0 hz1 hz2 rfl (by decide) _ _ _ rfl (HI4.out.own.alloc _) ⟨w4.heap.size, 0, none⟩ 1 1 [.int .i64 4, .int .i64 7] rfl rfl (cell_pair_new (heap_alloc_new _ _)) (by simp [Value.oneCell']) (by have := HLK.out; unfold maxLen; omega) (by have := HLK.out; omega) (by have := HI4.out.below.size; simp; omega) ?_; intro v' w6 hown' hgrow _ hat; have HI6 := Lib.hid (ClI.grown (HI4.out.later ((Below.refl _ _).alloc (Nat.le_refl _) _)) hgrow hown' hat rfl HC.out); clear hown' hgrow hat))
          exact ⟨⟨2, rfl, by omega, HI6.out⟩, by simp [intOf]⟩
      · have c0 : wr.cell? ⟨bt, 6, none⟩ = some (.int .i64 5) := HI.out.cell 6
        have c1 : wr.cell? ⟨bt, 7, none⟩ = some (.int .i64 6) := HI.out.cell 7
        have c2 : wr.cell? ⟨bt, 8, none⟩ = some (.func (.func 79) #[] #[]) := HI.out.cell 8
        have HI1 := Lib.hid (HI.out.later ((Below.refl _ _).alloc (Nat.le_refl _) (.cells #[.int .i64 5, .int .i64 6, .func (.func 79) #[] #[]] 85)))
        have GA := Lib.hid fun wx hx => GE.out 5 (by decide) wx hx
        have GB := Lib.hid fun wx hx => GE.out 6 (by decide) wx hx
        obtain ⟨a, ha⟩ : ∃ a, valOf l 5 = a := ⟨_, rfl⟩
        obtain ⟨b, hb⟩ : ∃ b, valOf l 6 = b := ⟨_, rfl⟩
        rw [ha] at GA
        rw [hb] at GB
        obtain ⟨r, hr⟩ : ∃ r, clB 2 a b = r := ⟨_, rfl⟩
        have CL := Lib.hid fun wx => clash2 a b wx
        rw [hr] at CL
        have HC : Hid (clAt l 2 = r) := Lib.hid (by rw [← hr, ← ha, ← hb]; rfl)
        clear ha hb hr
        have HLK : Hid ((clTo l 2).length ≤ 7) := Lib.hid (by have := clTo_len l 2; omega)
        cases r
        · go_wp2_with (first | (go_at_call 40; (fail_if_success (have := B3)); refine (GA.out _ HI1.out.below).mono ?_; rintro e w3 ⟨rfl, hb3⟩; have B3 := Lib.hid hb3; have n1 := (hb3.cell (p := ⟨wr.heap.size, 1, none⟩) (by simp)).trans (tri_c1 5 6 79 wr); have n2 := (hb3.cell (p := ⟨wr.heap.size, 2, none⟩) (by simp)).trans (tri_c2 5 6 79 wr); have n0 := (hb3.cell (p := ⟨wr.heap.size, 0, none⟩) (by simp)).trans (tri_c0 5 6 79 wr); have hlt3 : wr.heap.size < w3.heap.size := Nat.lt_of_lt_of_le (by simp) hb3.size; have HI3 := Lib.hid (HI1.out.later hb3); clear hb3) | (go_at_call 40; refine (GB.out _ HI3.out.below).mono ?_; rintro e w4 ⟨rfl, hb4⟩; have m2 := (hb4.cell (p := ⟨wr.heap.size, 2, none⟩) hlt3).trans n2; have m0 := (hb4.cell (p := ⟨wr.heap.size, 0, none⟩) hlt3).trans n0; have m1 := (hb4.cell (p := ⟨wr.heap.size, 1, none⟩) hlt3).trans n1; have HI4 := Lib.hid (HI3.out.later hb4); clear hb4) | (go_at_call 79; refine (CL.out _).mono ?_; rintro e w5 ⟨rfl, rfl⟩))
          exact ⟨⟨3, rfl, by omega, HI4.out.no HC.out⟩, by simp [intOf]⟩
        · go_wp2_with (first | (go_at_call 40; (fail_if_success (have := B3)); refine (GA.out _ HI1.out.below).mono ?_; rintro e w3 ⟨rfl, hb3⟩; have B3 := Lib.hid hb3; have n1 := (hb3.cell (p := ⟨wr.heap.size, 1, none⟩) (by simp)).trans (tri_c1 5 6 79 wr); have n2 := (hb3.cell (p := ⟨wr.heap.size, 2, none⟩) (by simp)).trans (tri_c2 5 6 79 wr); have n0 := (hb3.cell (p := ⟨wr.heap.size, 0, none⟩) (by simp)).trans (tri_c0 5 6 79 wr); have hlt3 : wr.heap.size < w3.heap.size := Nat.lt_of_lt_of_le (by simp) hb3.size; have HI3 := Lib.hid (HI1.out.later hb3); clear hb3) | (go_at_call 40; refine (GB.out _ HI3.out.below).mono ?_; rintro e w4 ⟨rfl, hb4⟩; have m2 := (hb4.cell (p := ⟨wr.heap.size, 2, none⟩) hlt3).trans n2; have m0 := (hb4.cell (p := ⟨wr.heap.size, 0, none⟩) hlt3).trans n0; have m1 := (hb4.cell (p := ⟨wr.heap.size, 1, none⟩) hlt3).trans n1; have HI4 := Lib.hid (HI3.out.later hb4); clear hb4) | (go_at_call 79; refine (CL.out _).mono ?_; rintro e w5 ⟨rfl, rfl⟩) | (at_builtin; refine wpList_append_own_at _ rfl _ _ 43 rfl w.heap.size 48 i0 (.agg #[.int .i64 0, .int .i64 0]) 2 16 under35 hi hz0 hz1 hz2 rfl (by decide) _ _ _ rfl (HI4.out.own.alloc _) ⟨w4.heap.size, 0, none⟩ 1 1 [.int .i64 5, .int .i64 6] rfl rfl (cell_pair_new (heap_alloc_new _ _)) (by simp [Value.oneCell']) (by have := HLK.out; unfold maxLen; omega) (by have := HLK.out; omega) (by have := HI4.out.below.size; simp; omega) ?_; intro v' w6 hown' hgrow _ hat; have HI6 := Lib.hid (ClI.grown (HI4.out.later ((Below.refl _ _).alloc (Nat.le_refl _) _)) hgrow hown' hat rfl HC.out); clear hown' hgrow hat))
          exact ⟨⟨3, rfl, by omega, HI6.out⟩, by simp [intOf]⟩
      · have c0 : wr.cell? ⟨bt, 9, none⟩ = some (.int .i64 5) := HI.out.cell 9
        have c1 : wr.cell? ⟨bt, 10, none⟩ = some (.int .i64 7) := HI.out.cell 10
        have c2 : wr.cell? ⟨bt, 11, none⟩ = some (.func (.func 80) #[] #[]) := HI.out.cell 11
        have HI1 := Lib.hid (HI.out.later ((Below.refl _ _).alloc (Nat.le_refl _) (.cells #[.int .i64 5, .int .i64 7, .func (.func 80) #[] #[]] 85)))
        have GA := Lib.hid fun wx hx => GE.out 5 (by decide) wx hx
        have GB := Lib.hid fun wx hx => GE.out 7 (by decide) wx hx
        obtain ⟨a, ha⟩ : ∃ a, valOf l 5 = a := ⟨_, rfl⟩
        obtain ⟨b, hb⟩ : ∃ b, valOf l 7 = b := ⟨_, rfl⟩
        rw [ha] at GA
        rw [hb] at GB
        obtain ⟨r, hr⟩ : ∃ r, clB 3 a b = r := ⟨_, rfl⟩
        have CL := Lib.hid fun wx => clash3 a b wx
        rw [hr] at CL
        have HC : Hid (clAt l 3 = r) := Lib.hid (by rw [← hr, ← ha, ← hb]; rfl)
        clear ha hb hr
        have HLK : Hid ((clTo l 3).length ≤ 7) := Lib.hid (by have := clTo_len l 3; omega)
        cases r
        · go_wp2_with (first | (go_at_call 40; (fail_if_success (have := B3)); refine (GA.out _ HI1.out.below).mono ?_; rintro e w3 ⟨rfl, hb3⟩; have B3 := Lib.hid hb3; have n1 := (hb3.cell (p := ⟨wr.heap.size, 1, none⟩) (by simp)).trans (tri_c1 5 7 80 wr); have n2 := (hb3.cell (p := ⟨wr.heap.size, 2, none⟩) (by simp)).trans (tri_c2 5 7 80 wr); have n0 := (hb3.cell (p := ⟨wr.heap.size, 0, none⟩) (by simp)).trans (tri_c0 5 7 80 wr); have hlt3 : wr.heap.size < w3.heap.size := Nat.lt_of_lt_of_le (by simp) hb3.size; have HI3 := Lib.hid (HI1.out.later hb3); clear hb3) | (go_at_call 40; refine (GB.out _ HI3.out.below).mono ?_; rintro e w4 ⟨rfl, hb4⟩; have m2 := (hb4.cell (p := ⟨wr.heap.size, 2, none⟩) hlt3).trans n2; have m0 := (hb4.cell (p := ⟨wr.heap.size, 0, none⟩) hlt3).trans n0; have m1 := (hb4.cell (p := ⟨wr.heap.size, 1, none⟩) hlt3).trans n1; have HI4 := Lib.hid (HI3.out.later hb4); clear hb4) | (go_at_call 80; refine (CL.out _).mono ?_; rintro e w5 ⟨rfl, rfl⟩))
          exact ⟨⟨4, rfl, by omega, HI4.out.no HC.out⟩, by simp [intOf]⟩
        · go_wp2_with (first | (go_at_call 40; (fail_if_success (have := B3)); refine (GA.out _ HI1.out.below).mono ?_; rintro e w3 ⟨rfl, hb3⟩; have B3 := Lib.hid hb3; have n1 := (hb3.cell (p := ⟨wr.heap.size, 1, none⟩) (by simp)).trans (tri_c1 5 7 80 wr); have n2 := (hb3.cell (p := ⟨wr.heap.size, 2, none⟩) (by simp)).trans (tri_c2 5 7 80 wr); have n0 := (hb3.cell (p := ⟨wr.heap.size, 0, none⟩) (by simp)).trans (tri_c0 5 7 80 wr); have hlt3 : wr.heap.size < w3.heap.size := Nat.lt_of_lt_of_le (by simp) hb3.size; have HI3 := Lib.hid (HI1.out.later hb3); clear hb3) | (go_at_call 40; refine (GB.out _ HI3.out.below).mono ?_; rintro e w4 ⟨rfl, hb4⟩; have m2 := (hb4.cell (p := ⟨wr.heap.size, 2, none⟩) hlt3).trans n2; have m0 := (hb4.cell (p := ⟨wr.heap.size, 0, none⟩) hlt3).trans n0; have m1 := (hb4.cell (p := ⟨wr.heap.size, 1, none⟩) hlt3).trans n1; have HI4 := Lib.hid (HI3.out.later hb4); clear hb4) | (go_at_call 80; refine (CL.out _).mono ?_; rintro e w5 ⟨rfl, rfl⟩) | (at_builtin; refine wpList_append_own_at _ rfl _ _ 43 rfl w.heap.size 48 i0 (.agg #[.int .i64 0, .int .i64 0]) 2 16 under35 hi hz0 hz1 hz2 rfl (by decide) _ _ _ rfl (HI4.out.own.alloc _) ⟨w4.heap.size, 0, none⟩ 1 1 [.int .i64 5, .int .i64 7] rfl rfl (cell_pair_new (heap_alloc_new _ _)) (by simp [Value.oneCell']) (by have := HLK.out; unfold maxLen; omega) (by have := HLK.out; omega) (by have := HI4.out.below.size; simp; omega) ?_; intro v' w6 hown' hgrow _ hat; have HI6 := Lib.hid (ClI.grown (HI4.out.later ((Below.refl _ _).alloc (Nat.le_refl _) _)) hgrow hown' hat rfl HC.out); clear hown' hgrow hat))
          exact ⟨⟨4, rfl, by omega, HI6.out⟩, by simp [intOf]⟩
      · have c0 : wr.cell? ⟨bt, 12, none⟩ = some (.int .i64 8) := HI.out.cell 12
        have c1 : wr.cell? ⟨bt, 13, none⟩ = some (.int .i64 11) := HI.out.cell 13
        have c2 : wr.cell? ⟨bt, 14, none⟩ = some (.func (.func 81) #[] #[]) := HI.out.cell 14
        have HI1 := Lib.hid (HI.out.later ((Below.refl _ _).alloc (Nat.le_refl _) (.cells #[.int .i64 8, .int .i64 11, .func (.func 81) #[] #[]] 85)))
        have GA := Lib.hid fun wx hx => GE.out 8 (by decide) wx hx
        have GB := Lib.hid fun wx hx => GE.out 11 (by decide) wx hx
        obtain ⟨a, ha⟩ : ∃ a, valOf l 8 = a := ⟨_, rfl⟩
        obtain ⟨b, hb⟩ : ∃ b, valOf l 11 = b := ⟨_, rfl⟩
        rw [ha] at GA
        rw [hb] at GB
        obtain ⟨r, hr⟩ : ∃ r, clB 4 a b = r := ⟨_, rfl⟩
        have CL := Lib.hid fun wx => clash4 a b wx
        rw [hr] at CL
        have HC : Hid (clAt l 4 = r) := Lib.hid (by rw [← hr, ← ha, ← hb]; rfl)
        clear ha hb hr
        have HLK : Hid ((clTo l 4).length ≤ 7) := Lib.hid (by have := clTo_len l 4; omega)
        cases r
        · go_wp2_with (first | (go_at_call 40; (fail_if_success (have := B3)); refine (GA.out _ HI1.out.below).mono ?_; rintro e w3 ⟨rfl, hb3⟩; have B3 := Lib.hid hb3; have n1 := (hb3.cell (p := ⟨wr.heap.size, 1, none⟩) (by simp)).trans (tri_c1 8 11 81 wr); have n2 := (hb3.cell (p := ⟨wr.heap.size, 2, none⟩) (by simp)).trans (tri_c2 8 11 81 wr); have n0 := (hb3.cell (p := ⟨wr.heap.size, 0, none⟩) (by simp)).trans (tri_c0 8 11 81 wr); have hlt3 : wr.heap.size < w3.heap.size := Nat.lt_of_lt_of_le (by simp) hb3.size; have HI3 := Lib.hid (HI1.out.later hb3); clear hb3) | (go_at_call 40; refine (GB.out _ HI3.out.below).mono ?_; rintro e w4 ⟨rfl, hb4⟩; have m2 := (hb4.cell (p := ⟨wr.heap.size, 2, none⟩) hlt3).trans n2; have m0 := (hb4.cell (p := ⟨wr.heap.size, 0, none⟩) hlt3).trans n0; have m1 := (hb4.cell (p := ⟨wr.heap.size, 1, none⟩) hlt3).trans n1; have HI4 := Lib.hid (HI3.out.later hb4); clear hb4) | (go_at_call 81; refine (CL.out _).mono ?_; rintro e w5 ⟨rfl, rfl⟩))
          exact ⟨⟨5, rfl, by omega, HI4.out.no HC.out⟩, by simp [intOf]⟩
        · go_wp2_with (first | (go_at_call 40; (fail_if_success (have := B3)); refine (GA.out _ HI1.out.below).mono ?_; rintro e w3 ⟨rfl, hb3⟩; have B3 := Lib.hid hb3; have n1 := (hb3.cell (p := ⟨wr.heap.size, 1, none⟩) (by simp)).trans (tri_c1 8 11 81 wr); have n2 := (hb3.cell (p := ⟨wr.heap.size, 2, none⟩) (by simp)).trans (tri_c2 8 11 81 wr); have n0 := (hb3.cell (p := ⟨wr.heap.size, 0, none⟩) (by simp)).trans (tri_c0 8 11 81 wr); have hlt3 : wr.heap.size < w3.heap.size := Nat.lt_of_lt_of_le (by simp) hb3.size; have HI3 := Lib.hid (HI1.out.later hb3); clear hb3) | (go_at_call 40; refine (GB.out _ HI3.out.below).mono ?_; rintro e w4 ⟨rfl, hb4⟩; have m2 := (hb4.cell (p := ⟨wr.heap.size, 2, none⟩) hlt3).trans n2; have m0 := (hb4.cell (p := ⟨wr.heap.size, 0, none⟩) hlt3).trans n0; have m1 := (hb4.cell (p := ⟨wr.heap.size, 1, none⟩) hlt3).trans n1; have HI4 := Lib.hid (HI3.out.later hb4); clear hb4) | (go_at_call 81; refine (CL.out _).mono ?_; rintro e w5 ⟨rfl, rfl⟩) | (at_builtin; refine wpList_append_own_at _ rfl _ _ 43 rfl w.heap.size 48 i0 (.agg #[.int .i64 0, .int .i64 0]) 2 16 under35 hi hz0 hz1 hz2 rfl (by decide) _ _ _ rfl (HI4.out.own.alloc _) ⟨w4.heap.size, 0, none⟩ 1 1 [.int .i64 8, .int .i64 11] rfl rfl (cell_pair_new (heap_alloc_new _ _)) (by simp [Value.oneCell']) (by have := HLK.out; unfold maxLen; omega) (by have := HLK.out; omega) (by have := HI4.out.below.size; simp; omega) ?_; intro v' w6 hown' hgrow _ hat; have HI6 := Lib.hid (ClI.grown (HI4.out.later ((Below.refl _ _).alloc (Nat.le_refl _) _)) hgrow hown' hat rfl HC.out); clear hown' hgrow hat))
          exact ⟨⟨5, rfl, by omega, HI6.out⟩, by simp [intOf]⟩
      · have c0 : wr.cell? ⟨bt, 15, none⟩ = some (.int .i64 9) := HI.out.cell 15
        have c1 : wr.cell? ⟨bt, 16, none⟩ = some (.int .i64 11) := HI.out.cell 16
        have c2 : wr.cell? ⟨bt, 17, none⟩ = some (.func (.func 82) #[] #[]) := HI.out.cell 17
        have HI1 := Lib.hid (HI.out.later ((Below.refl _ _).alloc (Nat.le_refl _) (.cells #[.int .i64 9, .int .i64 11, .func (.func 82) #[] #[]] 85)))
        have GA := Lib.hid fun wx hx => GE.out 9 (by decide) wx hx
        have GB := Lib.hid fun wx hx => GE.out 11 (by decide) wx hx
        obtain ⟨a, ha⟩ : ∃ a, valOf l 9 = a := ⟨_, rfl⟩
        obtain ⟨b, hb⟩ : ∃ b, valOf l 11 = b := ⟨_, rfl⟩
        rw [ha] at GA
        rw [hb] at GB
        obtain ⟨r, hr⟩ : ∃ r, clB 5 a b = r := ⟨_, rfl⟩
        have CL := Lib.hid fun wx => clash5 a b wx
        rw [hr] at CL
        have HC : Hid (clAt l 5 = r) := Lib.hid (by rw [← hr, ← ha, ← hb]; rfl)
        clear ha hb hr
        have HLK : Hid ((clTo l 5).length ≤ 7) := Lib.hid (by have := clTo_len l 5; omega)
        cases r
        · go_wp2_with (first | (go_at_call 40; (fail_if_success (have := B3)); refine (GA.out _ HI1.out.below).mono ?_; rintro e w3 ⟨rfl, hb3⟩; have B3 := Lib.hid hb3; have n1 := (hb3.cell (p := ⟨wr.heap.size, 1, none⟩) (by simp)).trans (tri_c1 9 11 82 wr); have n2 := (hb3.cell (p := ⟨wr.heap.size, 2, none⟩) (by simp)).trans (tri_c2 9 11 82 wr); have n0 := (hb3.cell (p := ⟨wr.heap.size, 0, none⟩) (by simp)).trans (tri_c0 9 11 82 wr); have hlt3 : wr.heap.size < w3.heap.size := Nat.lt_of_lt_of_le (by simp) hb3.size; have HI3 := Lib.hid (HI1.out.later hb3); clear hb3) | (go_at_call 40; refine (GB.out _ HI3.out.below).mono ?_; rintro e w4 ⟨rfl, hb4⟩; have m2 := (hb4.cell (p := ⟨wr.heap.size, 2, none⟩) hlt3).trans n2; have m0 := (hb4.cell (p := ⟨wr.heap.size, 0, none⟩) hlt3).trans n0; have m1 := (hb4.cell (p := ⟨wr.heap.size, 1, none⟩) hlt3).trans n1; have HI4 := Lib.hid (HI3.out.later hb4); clear hb4) | (go_at_call 82; refine (CL.out _).mono ?_; rintro e w5 ⟨rfl, rfl⟩))
          exact ⟨⟨6, rfl, by omega, HI4.out.no HC.out⟩, by simp [intOf]⟩
        · go_wp2_with (first | (go_at_call 40; (fail_if_success (have := B3)); refine (GA.out _ HI1.out.below).mono ?_; rintro e w3 ⟨rfl, hb3⟩; have B3 := Lib.hid hb3; have n1 := (hb3.cell (p := ⟨wr.heap.size, 1, none⟩) (by simp)).trans (tri_c1 9 11 82 wr); have n2 := (hb3.cell (p := ⟨wr.heap.size, 2, none⟩) (by simp)).trans (tri_c2 9 11 82 wr); have n0 := (hb3.cell (p := ⟨wr.heap.size, 0, none⟩) (by simp)).trans (tri_c0 9 11 82 wr); have hlt3 : wr.heap.size < w3.heap.size := Nat.lt_of_lt_of_le (by simp) hb3.size; have HI3 := Lib.hid (HI1.out.later hb3); clear hb3) | (go_at_call 40; refine (GB.out _ HI3.out.below).mono ?_; rintro e w4 ⟨rfl, hb4⟩; have m2 := (hb4.cell (p := ⟨wr.heap.size, 2, none⟩) hlt3).trans n2; have m0 := (hb4.cell (p := ⟨wr.heap.size, 0, none⟩) hlt3).trans n0; have m1 := (hb4.cell (p := ⟨wr.heap.size, 1, none⟩) hlt3).trans n1; have HI4 := Lib.hid (HI3.out.later hb4); clear hb4) | (go_at_call 82; refine (CL.out _).mono ?_; rintro e w5 ⟨rfl, rfl⟩) | (at_builtin; refine wpList_append_own_at _ rfl _ _ 43 rfl w.heap.size 48 i0 (.agg #[.int .i64 0, .int .i64 0]) 2 16 under35 hi hz0 hz1 hz2 rfl (by decide) _ _ _ rfl (HI4.out.own.alloc _) ⟨w4.heap.size, 0, none⟩ 1 1 [.int .i64 9, .int .i64 11] rfl rfl (cell_pair_new (heap_alloc_new _ _)) (by simp [Value.oneCell']) (by have := HLK.out; unfold maxLen; omega) (by have := HLK.out; omega) (by have := HI4.out.below.size; simp; omega) ?_; intro v' w6 hown' hgrow _ hat; have HI6 := Lib.hid (ClI.grown (HI4.out.later ((Below.refl _ _).alloc (Nat.le_refl _) _)) hgrow hown' hat rfl HC.out); clear hown' hgrow hat))
          exact ⟨⟨6, rfl, by omega, HI6.out⟩, by simp [intOf]⟩
      · have c0 : wr.cell? ⟨bt, 18, none⟩ = some (.int .i64 10) := HI.out.cell 18
        have c1 : wr.cell? ⟨bt, 19, none⟩ = some (.int .i64 13) := HI.out.cell 19
        have c2 : wr.cell? ⟨bt, 20, none⟩ = some (.func (.func 83) #[] #[]) := HI.out.cell 20
        have HI1 := Lib.hid (HI.out.later ((Below.refl _ _).alloc (Nat.le_refl _) (.cells #[.int .i64 10, .int .i64 13, .func (.func 83) #[] #[]] 85)))
        have GA := Lib.hid fun wx hx => GE.out 10 (by decide) wx hx
        have GB := Lib.hid fun wx hx => GE.out 13 (by decide) wx hx
        obtain ⟨a, ha⟩ : ∃ a, valOf l 10 = a := ⟨_, rfl⟩
        obtain ⟨b, hb⟩ : ∃ b, valOf l 13 = b := ⟨_, rfl⟩
        rw [ha] at GA
        rw [hb] at GB
        obtain ⟨r, hr⟩ : ∃ r, clB 6 a b = r := ⟨_, rfl⟩
        have CL := Lib.hid fun wx => clash6 a b wx
        rw [hr] at CL
        have HC : Hid (clAt l 6 = r) := Lib.hid (by rw [← hr, ← ha, ← hb]; rfl)
        clear ha hb hr
        have HLK : Hid ((clTo l 6).length ≤ 7) := Lib.hid (by have := clTo_len l 6; omega)
        cases r
        · go_wp2_with (first | (go_at_call 40; (fail_if_success (have := B3)); refine (GA.out _ HI1.out.below).mono ?_; rintro e w3 ⟨rfl, hb3⟩; have B3 := Lib.hid hb3; have n1 := (hb3.cell (p := ⟨wr.heap.size, 1, none⟩) (by simp)).trans (tri_c1 10 13 83 wr); have n2 := (hb3.cell (p := ⟨wr.heap.size, 2, none⟩) (by simp)).trans (tri_c2 10 13 83 wr); have n0 := (hb3.cell (p := ⟨wr.heap.size, 0, none⟩) (by simp)).trans (tri_c0 10 13 83 wr); have hlt3 : wr.heap.size < w3.heap.size := Nat.lt_of_lt_of_le (by simp) hb3.size; have HI3 := Lib.hid (HI1.out.later hb3); clear hb3) | (go_at_call 40; refine (GB.out _ HI3.out.below).mono ?_; rintro e w4 ⟨rfl, hb4⟩; have m2 := (hb4.cell (p := ⟨wr.heap.size, 2, none⟩) hlt3).trans n2; have m0 := (hb4.cell (p := ⟨wr.heap.size, 0, none⟩) hlt3).trans n0; have m1 := (hb4.cell (p := ⟨wr.heap.size, 1, none⟩) hlt3).trans n1; have HI4 := Lib.hid (HI3.out.later hb4); clear hb4) | (go_at_call 83; refine (CL.out _).mono ?_; rintro e w5 ⟨rfl, rfl⟩))
          exact ⟨⟨7, rfl, by omega, HI4.out.no HC.out⟩, by simp [intOf]⟩
        · go_wp2_with (first | (go_at_call 40; (fail_if_success (have := B3)); refine (GA.out _ HI1.out.below).mono ?_; rintro e w3 ⟨rfl, hb3⟩; have B3 := Lib.hid hb3; have n1 := (hb3.cell (p := ⟨wr.heap.size, 1, none⟩) (by simp)).trans (tri_c1 10 13 83 wr); have n2 := (hb3.cell (p := ⟨wr.heap.size, 2, none⟩) (by simp)).trans (tri_c2 10 13 83 wr); have n0 := (hb3.cell (p := ⟨wr.heap.size, 0, none⟩) (by simp)).trans (tri_c0 10 13 83 wr); have hlt3 : wr.heap.size < w3.heap.size := Nat.lt_of_lt_of_le (by simp) hb3.size; have HI3 := Lib.hid (HI1.out.later hb3); clear hb3) | (go_at_call 40; refine (GB.out _ HI3.out.below).mono ?_; rintro e w4 ⟨rfl, hb4⟩; have m2 := (hb4.cell (p := ⟨wr.heap.size, 2, none⟩) hlt3).trans n2; have m0 := (hb4.cell (p := ⟨wr.heap.size, 0, none⟩) hlt3).trans n0; have m1 := (hb4.cell (p := ⟨wr.heap.size, 1, none⟩) hlt3).trans n1; have HI4 := Lib.hid (HI3.out.later hb4); clear hb4) | (go_at_call 83; refine (CL.out _).mono ?_; rintro e w5 ⟨rfl, rfl⟩) | (at_builtin; refine wpList_append_own_at _ rfl _ _ 43 rfl w.heap.size 48 i0 (.agg #[.int .i64 0, .int .i64 0]) 2 16 under35 hi hz0 hz1 hz2 rfl (by decide) _ _ _ rfl (HI4.out.own.alloc _) ⟨w4.heap.size, 0, none⟩ 1 1 [.int .i64 10, .int .i64 13] rfl rfl (cell_pair_new (heap_alloc_new _ _)) (by simp [Value.oneCell']) (by have := HLK.out; unfold maxLen; omega) (by have := HLK.out; omega) (by have := HI4.out.below.size; simp; omega) ?_; intro v' w6 hown' hgrow _ hat; have HI6 := Lib.hid (ClI.grown (HI4.out.later ((Below.refl _ _).alloc (Nat.le_refl _) _)) hgrow hown' hat rfl HC.out); clear hown' hgrow hat))
          exact ⟨⟨7, rfl, by omega, HI6.out⟩, by simp [intOf]⟩
    · obtain rfl : k = 7 := by omega
      go_wp2_with fail
      go_ret2
      exact ⟨_, _, rfl, HI.out⟩

end Go.Proofs.YtladjkkkhomngaaDoor
