/- What came in, read as pieces and as numbers. -/
import Derived.Test.YteblbpdpfegooaaB
import Derived.Test.YteblbpdpfegooaaC
import Derived.Test.YteblbpdpfegooaaRows
import Derived.SizedLaws
import Derived.WalkKit
import Derived.ProofKit
import Derived.OpenShut
import Derived.ShutString
import Derived.Deep.Slices
import Derived.Deep.Strs
import Derived.Lib.SmallJoins
import Derived.Stop.Joined
namespace Go.Proofs.Yteblbpdpfegooaa
set_option maxRecDepth 8000
open Go.ChangeShapes Go.WideShapes Go.ChangeAt Go.RowKit

theorem own : ownKnob Try.prog.godebug = none := by kernel_rfl
theorem cells25 : Try.prog.cellsOf 25 = 4 := by kernel_rfl
theorem cells23 : Try.prog.cellsOf 23 = 1 := by kernel_rfl
theorem cells3 : Try.prog.cellsOf 3 = 1 := by kernel_rfl
theorem cells4 : Try.prog.cellsOf 4 = 1 := by kernel_rfl
theorem cells9 : Try.prog.cellsOf 9 = 1 := by kernel_rfl

theorem weights_all {H : Type} {P : Program} {e : TypeId} {n : Nat} {d : DataW H} : ∀ {l : List (DataW H)}, d ∈ l → n ∈ d.weights P e → n ∈ DataW.weightsAll P e l
  | [], h, _ => by cases h
  | x :: r, h, hn => by
    simp only [DataW.weightsAll, List.mem_append]
    rcases List.mem_cons.1 h with rfl | h
    · exact .inl hn
    · exact .inr (weights_all h hn)

/-- A piece off its reading. -/
theorem open_pc {H : Type} {enc : TypeId × Value → H} {W : World} {sp : Nat → Bool} {held : Bool} {n : Nat} {cs : List Value} {x : DataW H × List MemPlace} (h : DataW.trod enc Try.prog W 0 sp held n 25 cs = some x) :
    ∃ y : Pc, cs = [.int .i64 y.id, .int .i64 y.place, .bool y.more, .string y.body] ∧ x.1 = .agg [.lit (.int .i64 y.id), .lit (.int .i64 y.place), .lit (.bool y.more), .lit (.string y.body.data.toList)] := by
  obtain ⟨y0, y1, y2, y3, m, rfl, hl, h0, h1, h2, h3⟩ := Go.Joins.trod_struct4 Try.underlying25 h
  rw [cells25] at hl
  match cs, hl with
  | [v0, v1, v2, v3], _ =>
    simp [cells3] at h0 h1
    simp [cells4] at h2
    simp [cells9] at h3
    obtain ⟨k, e0, rfl, _⟩ := DataW.trod_int Try.underlying3 h0
    obtain ⟨nn, e1, rfl, _⟩ := DataW.trod_int Try.underlying3 h1
    obtain ⟨mm, e2, rfl⟩ := DataW.trod_bool Try.underlying4 h2
    obtain ⟨s, e3, rfl, _⟩ := DataW.trod_string Try.underlying9 h3
    simp at e0 e1 e2 e3
    subst e0 e1 e2 e3
    exact ⟨⟨k, nn, mm, s⟩, rfl, rfl⟩

theorem weights_pc {H : Type} (k n : Int) (m : Bool) (s : List UInt8) : s.length ∈ DataW.weights Try.prog 25 (DataW.agg (H := H) [.lit (.int .i64 k), .lit (.int .i64 n), .lit (.bool m), .lit (.string s)]) := by
  simp [DataW.weights, DataW.weightsEach, Try.underlying25]

theorem spot_none {W : World} {a : Addr} {v : Value} (h : W.cell? a = some v) : a.spot = none := by
  unfold World.cell? at h
  split at h
  · split at h
    · cases h
    · rename_i hs
      simpa using hs
  · cases h

instance inPc : Inhabited Pc := ⟨⟨0, 0, false, ⟨#[]⟩⟩⟩
instance inSlD : Inhabited SlD := ⟨⟨none, [], 0⟩⟩

/-- A list of pieces that came in is a slice of pieces; a bound on the reading's bulk bounds its bodies. -/
theorem sl_in {H : Type} {enc : TypeId × Value → H} {W : World} {fuel : Nat} {v : Value} {x : DataW H × List MemPlace} (h : DataW.trod enc Try.prog W 0 (fun _ => true) true fuel 23 [v] = some x) :
    ∃ s : SlD, v = s.v ∧ s.Ok W ∧ s.l.length ≤ 9223372036854775807 ∧ ∀ N, (∀ n ∈ DataW.weights Try.prog 23 x.1, n ≤ N) → ∀ p ∈ s.l, p.body.size ≤ N := by
  rcases Go.Deep.open_slice Try.underlying23 h with ⟨hcs, _⟩ | ⟨a, len, cap, m, n, D, Pl, hcs, hbase, hlc, hcm, hm, hx, hel⟩
  · simp only [List.cons.injEq, and_true] at hcs
    subst hcs
    exact ⟨⟨none, [], 0⟩, rfl, ⟨Nat.le_refl _, .inl rfl, fun _ => ⟨rfl, rfl⟩⟩, Nat.zero_le _, fun _ _ p hp => by cases hp⟩
  · simp only [List.cons.injEq, and_true] at hcs
    subst hcs
    have hmax : maxLen ≤ 9223372036854775807 := by decide
    simp only [if_true] at hm
    by_cases h0 : len = 0
    · subst h0
      exact ⟨⟨some a, [], cap⟩, rfl, ⟨Nat.zero_le _, .inl rfl, fun h => by cases h⟩, Nat.zero_le _, fun _ _ p hp => by cases hp⟩
    · have each : ∀ i, i < len → ∃ y : Pc, (D i = .agg [.lit (.int .i64 y.id), .lit (.int .i64 y.place), .lit (.bool y.more), .lit (.string y.body.data.toList)]) ∧
          W.cell? (a.add (i * 4)) = some (.int .i64 y.id) ∧ W.cell? (a.add (i * 4 + 1)) = some (.int .i64 y.place) ∧ W.cell? (a.add (i * 4 + 2)) = some (.bool y.more) ∧ W.cell? (a.add (i * 4 + 3)) = some (.string y.body) := by
        intro i hi
        obtain ⟨cs', hc, ht⟩ := hel i (by omega)
        rw [cells25] at hc
        obtain ⟨y, rfl, hy⟩ := open_pc ht
        obtain ⟨_, _, hcell⟩ := World.cells?_some hc
        have e0 := hcell 0 (by omega)
        have e1 := hcell 1 (by omega)
        have e2 := hcell 2 (by omega)
        have e3 := hcell 3 (by omega)
        rw [Go.Deep.add_add] at e0 e1 e2 e3
        exact ⟨y, hy, by simpa using e0, by simpa using e1, by simpa using e2, by simpa using e3⟩
      obtain ⟨f, hfy⟩ := Go.Deep.choose_lt each
      have hspot : a.spot = none := by
        have h1 := (hfy 0 (by omega)).2.1
        have h2 : a.add (0 * 4) = a := by unfold Addr.add; simp
        rw [h2] at h1
        exact spot_none h1
      obtain ⟨blk, off, spot⟩ := a
      simp only at hspot
      subst hspot
      have hlb : blk < W.heap.size := World.block_lt_of_cell? W _ (hfy 0 (by omega)).2.1
      refine ⟨⟨some ⟨blk, off, none⟩, (List.range len).map f, cap⟩, by simp [SlD.v], ⟨by simpa using hlc, .inr ⟨blk, off, rfl, hlb, fun i hi => ?_⟩, fun h => by cases h⟩, by simp only [List.length_map, List.length_range]; omega, fun N hN p hp => ?_⟩
      · have hi' : i < len := by simpa using hi
        obtain ⟨_, g0, g1, g2, g3⟩ := hfy i hi'
        rw [add_none] at g0 g1 g2 g3
        simp only [List.getElem_map, List.getElem_range]
        exact ⟨g0, by simpa [Nat.add_assoc] using g1, by simpa [Nat.add_assoc] using g2, by simpa [Nat.add_assoc] using g3⟩
      · obtain ⟨i, hi, rfl⟩ := List.mem_map.1 hp
        have hi' : i < len := by simpa using hi
        have h1 : (f i).body.data.toList.length ∈ DataW.weights Try.prog 25 (D i) := by
          rw [(hfy i hi').1]
          exact weights_pc _ _ _ _
        have h2 : (f i).body.data.toList.length ∈ DataW.weights Try.prog 23 x.1 := by
          rw [hx]
          simp only [DataW.weights, Try.underlying23]
          exact List.mem_cons_of_mem _ (List.mem_append_left _ (weights_all (List.mem_map_of_mem hi) h1))
        exact hN _ h2

/-- Numbers that came in. -/
theorem ints_in {H : Type} {enc : TypeId × Value → H} {W : World} {fuel : Nat} {a0 : Option Addr} {len cap : Nat} {x : DataW H × List MemPlace} (h : DataW.trod enc Try.prog W 0 (fun _ => true) true fuel 41 [.slice a0 len cap] = some x) :
    ∃ ts : List Int, ts.length = len ∧ IntRow W a0 ts ∧ ts.length ≤ 9223372036854775807 ∧ ∀ t ∈ ts, -9223372036854775808 ≤ t ∧ t ≤ 9223372036854775807 := by
  rcases Go.Deep.open_slice1 Try.underlying41 cells3 h with ⟨hcs, _⟩ | ⟨a, len', cap', m, n, V, D, Pl, hcs, hbase, hlc, hcm, hm, hx, hel⟩
  · simp only [List.cons.injEq, and_true, Value.slice.injEq] at hcs
    obtain ⟨rfl, rfl, rfl⟩ := hcs
    exact ⟨[], rfl, .inl rfl, Nat.zero_le _, fun t ht => by cases ht⟩
  · simp only [List.cons.injEq, and_true, Value.slice.injEq] at hcs
    obtain ⟨rfl, rfl, rfl⟩ := hcs
    have hmax : maxLen ≤ 9223372036854775807 := by decide
    simp only [if_true] at hm
    by_cases h0 : len = 0
    · subst h0
      exact ⟨[], rfl, .inl rfl, Nat.zero_le _, fun t ht => by cases ht⟩
    · have each : ∀ i, i < len → ∃ t : Int, W.cell? (a.add i) = some (.int .i64 t) ∧ -9223372036854775808 ≤ t ∧ t ≤ 9223372036854775807 := by
        intro i hi
        obtain ⟨hc, ht⟩ := hel i (by omega)
        obtain ⟨t, e0, _, hw⟩ := DataW.trod_int Try.underlying3 ht
        simp only [List.cons.injEq, and_true] at e0
        refine ⟨t, by rw [hc, e0], ?_⟩
        simp only [Lit.wf, decide_eq_true_eq, Bool.and_eq_true] at hw
        exact hw
      obtain ⟨f, hfy⟩ := Go.Deep.choose_lt each
      have hspot : a.spot = none := by
        have h1 := (hfy 0 (by omega)).1
        have h2 : a.add 0 = a := by unfold Addr.add; simp
        rw [h2] at h1
        exact spot_none h1
      obtain ⟨blk, off, spot⟩ := a
      simp only at hspot
      subst hspot
      have hlb : blk < W.heap.size := World.block_lt_of_cell? W _ (hfy 0 (by omega)).1
      refine ⟨(List.range len).map f, by simp, .inr ⟨blk, off, rfl, hlb, fun i hi => ?_⟩, by simp only [List.length_map, List.length_range]; omega, fun t ht => ?_⟩
      · have hi' : i < len := by simpa using hi
        have g0 := (hfy i hi').1
        rw [add_none] at g0
        simpa using g0
      · obtain ⟨i, hi, rfl⟩ := List.mem_map.1 ht
        exact (hfy i (by simpa using hi)).2

end Go.Proofs.Yteblbpdpfegooaa
