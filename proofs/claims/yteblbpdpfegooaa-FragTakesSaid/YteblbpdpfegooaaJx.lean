/- PROVED HERE: the law FragTakes of the translated program returns true for every list of acts and all limits, with no condition; of the memory that there was nothing changes. -/
import Derived.Test.YteblbpdpfegooaaJw
import Derived.Test.YteblbpdpfegooaaJt
namespace Go.Proofs.Yteblbpdpfegooaa
set_option maxRecDepth 8000
open Go.ChangeShapes Go.WideShapes Go.ChangeAt Go.RowKit

theorem cells27 : Try.prog.cellsOf 27 = 6 := by kernel_rfl
theorem bytes27 : Try.prog.bytesOf 27 = 56 := by kernel_rfl
instance inAc : Inhabited Ac := ⟨⟨0, 0, ⟨0, 0, false, ⟨#[]⟩⟩⟩⟩

/-- An act off its reading. -/
theorem open_ac {H : Type} {enc : TypeId × Value → H} {W : World} {sp : Nat → Bool} {held : Bool} {n : Nat} {cs : List Value} {x : DataW H × List MemPlace} (h : DataW.trod enc Try.prog W 0 sp held n 27 cs = some x) :
    ∃ y : Ac, cs = [.int .i64 y.kind, .int .i64 y.id, .int .i64 y.p.id, .int .i64 y.p.place, .bool y.p.more, .string y.p.body] := by
  obtain ⟨y0, y1, y2, m, rfl, hl, h0, h1, h2⟩ := Go.Deep.trod_struct3 Try.underlying27 h
  rw [cells27] at hl
  match cs, hl with
  | [v0, v1, v2, v3, v4, v5], _ =>
    simp [cells3] at h0 h1
    simp [cells25] at h2
    obtain ⟨k, e0, rfl, _⟩ := DataW.trod_int Try.underlying3 h0
    obtain ⟨nn, e1, rfl, _⟩ := DataW.trod_int Try.underlying3 h1
    obtain ⟨y, e2, _⟩ := open_pc h2
    simp at e0 e1 e2
    obtain ⟨g2, g3, g4, g5⟩ := e2
    subst e0 e1 g2 g3 g4 g5
    exact ⟨⟨k, nn, y⟩, rfl⟩

/-- Acts that came in. -/
theorem acs_in {H : Type} {enc : TypeId × Value → H} {W : World} {fuel : Nat} {a0 : Option Addr} {len cap : Nat} {x : DataW H × List MemPlace} (h : DataW.trod enc Try.prog W 0 (fun _ => true) true fuel 22 [.slice a0 len cap] = some x) :
    ∃ s : List Ac, s.length = len ∧ AcRow W a0 s ∧ ∀ N, (∀ n ∈ DataW.weights Try.prog 22 x.1, n ≤ N) → s.length * 56 ≤ N := by
  rcases Go.Deep.open_slice Try.underlying22 h with ⟨hcs, _⟩ | ⟨a, len', cap', m, n, D, Pl, hcs, hbase, hlc, hcm, hm, hx, hel⟩
  · simp only [List.cons.injEq, and_true, Value.slice.injEq] at hcs
    obtain ⟨rfl, rfl, rfl⟩ := hcs
    exact ⟨[], rfl, .inl rfl, fun N _ => by simp⟩
  · simp only [List.cons.injEq, and_true, Value.slice.injEq] at hcs
    obtain ⟨rfl, rfl, rfl⟩ := hcs
    have hmax : maxLen ≤ 9223372036854775807 := by decide
    simp only [if_true] at hm
    by_cases h0 : len = 0
    · subst h0
      exact ⟨[], rfl, .inl rfl, fun N _ => by simp⟩
    · have each : ∀ i, i < len → ∃ y : Ac, W.cell? (a.add (i * 6)) = some (.int .i64 y.kind) ∧ W.cell? (a.add (i * 6 + 1)) = some (.int .i64 y.id) ∧ W.cell? (a.add (i * 6 + 2)) = some (.int .i64 y.p.id) ∧ W.cell? (a.add (i * 6 + 3)) = some (.int .i64 y.p.place) ∧ W.cell? (a.add (i * 6 + 4)) = some (.bool y.p.more) ∧ W.cell? (a.add (i * 6 + 5)) = some (.string y.p.body) := by
        intro i hi
        obtain ⟨cs', hc, ht⟩ := hel i (by omega)
        rw [cells27] at hc
        obtain ⟨y, rfl⟩ := open_ac ht
        obtain ⟨_, _, hcell⟩ := World.cells?_some hc
        have e0 := hcell 0 (by omega)
        have e1 := hcell 1 (by omega)
        have e2 := hcell 2 (by omega)
        have e3 := hcell 3 (by omega)
        have e4 := hcell 4 (by omega)
        have e5 := hcell 5 (by omega)
        rw [Go.Deep.add_add] at e0 e1 e2 e3 e4 e5
        exact ⟨y, by simpa using e0, by simpa using e1, by simpa using e2, by simpa using e3, by simpa using e4, by simpa using e5⟩
      obtain ⟨f, hfy⟩ := Go.Deep.choose_lt each
      have hspot : a.spot = none := by
        have h1 := (hfy 0 (by omega)).1
        have h2 : a.add (0 * 6) = a := by unfold Addr.add; simp
        rw [h2] at h1
        exact spot_none h1
      obtain ⟨blk, off, spot⟩ := a
      simp only at hspot
      subst hspot
      have hlb : blk < W.heap.size := World.block_lt_of_cell? W _ (hfy 0 (by omega)).1
      refine ⟨(List.range len).map f, by simp, .inr ⟨blk, off, rfl, hlb, fun i hi => ?_⟩, fun N hN => ?_⟩
      · have hi' : i < len := by simpa using hi
        obtain ⟨g0, g1, g2, g3, g4, g5⟩ := hfy i hi'
        rw [add_none] at g0 g1 g2 g3 g4 g5
        simp only [List.getElem_map, List.getElem_range]
        exact ⟨g0, by simpa [Nat.add_assoc] using g1, by simpa [Nat.add_assoc] using g2, by simpa [Nat.add_assoc] using g3, by simpa [Nat.add_assoc] using g4, by simpa [Nat.add_assoc] using g5⟩
      · have h9 : ∀ q : Nat, q = (DataW.weights Try.prog 22 x.1).headD 0 → q ≤ N ∧ len * 56 ≤ q := fun q hq => by
          rw [hx] at hq hN
          simp only [DataW.weights, Try.underlying22, List.headD_cons, bytes27, List.length_map, List.length_range, List.mem_cons, forall_eq_or_imp] at hq hN
          rw [hq]
          refine ⟨hN.1, ?_⟩
          exact Nat.mul_le_mul_right _ (Nat.le_add_right _ _)
        obtain ⟨h1, h2⟩ := h9 _ rfl
        rw [List.length_map, List.length_range]
        omega

namespace fragTakes
set_option maxRecDepth 100000 in
theorem lifted (os : Os) (started : os.Started) (H : Type) (enc : TypeId × Value → H) :
    ReturnsInHanded {} Try.checked os 3 .any (Rows.fragTakesSpec.pre6 enc Try.prog Try.f3 Rows.fragTakesRow.domain false) (Rows.fragTakesSpec.post enc Try.prog Try.f3 false true false false) := by
  refine returnsInHanded_of_change_sized (C := Try.checked) own started (by kernel_rfl) Try.func3
    (ChangeSpec.witness6 (enc := enc) (C := Try.checked) false ⟨#[], #[.int .i64 0, .int .i64 0, .slice none 0 0], []⟩ 8 (by kernel_rfl) (by kernel_rfl) (by kernel_rfl) (by kernel_rfl)) ?_
  intro W base args ds gs before hval0 hW hcnd hsz0 _
  have hval : ∀ (j : Nat) t v, Try.f3.params[j]? = some t → args[j]? = some v → Value.okWide Try.prog W .any base t v := hval0
  have hsz : (DataW.weightsEach Try.prog (Try.f3.params.toList ++ Rows.fragTakesSpec.plain.varTypes Try.prog) (ds ++ gs)).all (· ≤ reachBytes) = true := hsz0
  have hW' := hW
  obtain ⟨p, q, hA0, hV, rfl, hfz, hnd⟩ := hW
  have hA : DataW.TrodAll enc Try.prog W 0 (fun _ => true) true Try.f3.params.toList args.toList ds p := hA0
  rw [Try.params3] at hA hval hsz
  obtain ⟨v0, vs0, d0, ds0, p0, q0, hargs, rfl, rfl, h0, r0⟩ := trodAll_cons hA
  obtain ⟨v1, vs1, d1, ds1, p1, q1, rfl, rfl, rfl, h1, r1⟩ := trodAll_cons r0
  obtain ⟨v2, vs2, d2, ds2, p2, q2, rfl, rfl, rfl, h2, r2⟩ := trodAll_cons r1
  obtain ⟨rfl, rfl, rfl⟩ := trodAll_nil r2
  obtain rfl : args = #[v0, v1, v2] := by cases args; simp_all
  obtain ⟨rfl, rfl⟩ := trodVars_none hV
  obtain ⟨n, rfl⟩ := okWide_int Try.underlying3 (hval 0 3 v0 rfl rfl)
  obtain ⟨m, rfl⟩ := okWide_int Try.underlying3 (hval 1 3 v1 rfl rfl)
  obtain ⟨a0, len0, cap0, rfl⟩ := okWide_slice Try.underlying22 (hval 2 22 v2 rfl rfl)
  clear hA0 hval0 hA hsz0
  simp only [List.append_nil] at hW'
  have hlt : ∀ x ∈ p0 ++ (p1 ++ p2), x.block < W.heap.size := fun x hx => by simpa using hW'.lt x (by simpa using hx)
  have hkb : ∀ n ∈ DataW.weights Try.prog 22 d2, n ≤ reachBytes := fun n hn => by
    have := List.all_eq_true.1 hsz _ (DataW.weights_mem_each (j := 2) (t := 22) rfl rfl n hn)
    simpa using this
  obtain ⟨s, rfl, hrow, hbd⟩ := acs_in (show DataW.trod enc Try.prog W 0 (fun _ => true) true h2.choose 22 [.slice a0 len0 cap0] = some (d2, p2) from h2.choose_spec)
  have hb9 := hbd reachBytes hkb
  have hr9 : reachBytes = 140737488351232 := by decide
  rw [hr9] at hb9
  refine (takesLaw_any a0 cap0 s n m W hrow (by omega) (by omega)).mono fun e W' ⟨he, hg⟩ => ?_
  subst he
  exact ⟨_, rfl, _, _, _, [], _, [], hW', trodAll_cons_mk (shut_bool Try.underlying4 _) trodAll_mk0, trodAll_cons_mk (Below.trod (by kernel_rfl) (by kernel_rfl) (of_decide_eq_true (by kernel_rfl)) h0 hg (fun x hx => hlt x (List.mem_append_left _ hx))) (trodAll_cons_mk (Below.trod (by kernel_rfl) (by kernel_rfl) (of_decide_eq_true (by kernel_rfl)) h1 hg (fun x hx => hlt x (List.mem_append_right _ (List.mem_append_left _ hx)))) (trodAll_cons_mk (Below.trod (by kernel_rfl) (by kernel_rfl) (of_decide_eq_true (by kernel_rfl)) h2 hg (fun x hx => hlt x (List.mem_append_right _ (List.mem_append_right _ hx)))) trodAll_mk0)), rfl, hg.frame _, fun h => by cases h⟩

theorem over : Rows.fragTakesRow.holds Try.pinned (OpenSpec.ofChange Rows.fragTakesSpec) :=
  OpenClaim.holds_of_wide 3 Try.f3 rfl rfl rfl rfl rfl rfl rfl ⟨rfl, rfl, rfl, rfl, rfl⟩ rfl rfl rfl rfl rfl (by kernel_rfl) Try.func3 (by kernel_rfl)
    (of_decide_eq_true (by kernel_rfl)) (by unfold Func.isWrapper; first | (rw [if_pos (by decide +kernel)]; kernel_rfl) | (rw [if_neg (by decide +kernel)]; exact ⟨rfl, rfl⟩))
    (fun os started H enc _ => lifted os started H enc)

/-- THE STATEMENT -/
theorem proved : Rows.FragTakesSaid :=
  over
#print axioms proved
end fragTakes
end Go.Proofs.Yteblbpdpfegooaa
