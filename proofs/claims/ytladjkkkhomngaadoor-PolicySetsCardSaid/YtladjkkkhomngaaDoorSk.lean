/-
  PROVED HERE: the law PolicySets of the translated program returns true for every list of policies, every policy and every kind, with no condition; of the memory that there was nothing changes. The table of the package policy is what the program's text lays (the card ties it).
-/
import Derived.Test.YtladjkkkhomngaaDoorSj
import Derived.Test.YtladjkkkhomngaaDoorRows
import Derived.Test.YtladjkkkhomngaaDoorCards
import Derived.Test.YtladjkkkhomngaaDoorTie
import Derived.ProofKit
import Derived.LaidMore
import Derived.OpenShut
import Derived.ShutString
import Derived.SizedLaws
import Derived.Stop.Joined
import Derived.Deep.Slices
import Derived.Deep.Strs
import Derived.Lib.SmallJoins
import Derived.SevenTiedAt
namespace Go.Proofs.YtladjkkkhomngaaDoor
set_option maxRecDepth 8000
open Go.ChangeShapes Go.WideShapes Go.ChangeAt Go.RowKit

theorem own : ownKnob Tryd.prog.godebug = none := by kernel_rfl
theorem gSorts : Tryd.prog.globalNamed "intermede/policy.sorts" = some 0 := by kernel_rfl
theorem tSorts : (Tryd.prog.globals[0]?).map (·.type) = some 62 := by kernel_rfl
theorem cells79 : Tryd.prog.cellsOf 61 = 6 := by kernel_rfl
theorem cells80 : Tryd.prog.cellsOf 62 = 84 := by kernel_rfl
theorem cells46 : Tryd.prog.cellsOf 24 = 2 := by kernel_rfl
theorem cellsOf3 : Tryd.prog.cellsOf 3 = 1 := by kernel_rfl

theorem cells77 : Tryd.prog.cellsOf 59 = 4 := by kernel_rfl
theorem cells9 : Tryd.prog.cellsOf 9 = 1 := by kernel_rfl

/-- A kind's entry in the table, off its reading. -/
theorem open_sort {H : Type} {enc : TypeId × Value → H} {W : World} {sp : Nat → Bool} {held : Bool} {n : Nat} {cs : List Value} {x : DataW H × List MemPlace} (h : DataW.trod enc Tryd.prog W 0 sp held n 61 cs = some x) :
    ∃ (d0 d1 d2 d3 : DataW H) (s : ByteArray) (m : Int), cs[1]? = some (.string s) ∧ cs[5]? = some (.int .i64 m) ∧ x.1 = .agg [d0, .agg [.lit (.string s.data.toList), d1, d2, d3], .lit (.int .i64 m)] := by
  obtain ⟨y0, y1, y2, n', rfl, hl, _, h1, h2⟩ := Go.Deep.trod_struct3 Tryd.underlying61 h
  rw [cells79] at hl
  match cs, hl with
  | [v0, v1, v2, v3, v4, v5], _ =>
    simp [cells77] at h1
    simp [cellsOf3] at h2
    obtain ⟨m, e2, e3, _⟩ := DataW.trod_int Tryd.underlying3 h2
    obtain ⟨xs, m1, rfl, hx1, _, hn, hel⟩ := DataW.trod_array Tryd.underlying59 h1
    have g := hel 0 (by decide)
    match xs, hn with
    | [z0, z1, z2, z3], _ =>
      simp [cells9] at g
      obtain ⟨s, e4, e5, _⟩ := DataW.trod_string Tryd.underlying9 g
      simp at e2 e4
      subst e2 e4
      exact ⟨y0.1, z1.1, z2.1, z3.1, s, m, rfl, rfl, by rw [hx1, e3, e5]; rfl⟩

theorem sort_at {W : World} {cs0 : Array Value} (hv : W.var? Tryd.prog "intermede/policy.sorts" = some cs0) {m1 : Nat} {sp : Nat → Bool} {held : Bool} {enc : TypeId × Value → Unit} {xs : List (DataW Unit × List MemPlace)} (hel : ∀ i, i < 14 → DataW.trod enc Tryd.prog W 0 sp held m1 61 ((cs0.toList.drop (i * Tryd.prog.cellsOf 61)).take (Tryd.prog.cellsOf 61)) = xs[i]?)
    (k : Nat) (hk : k < 14) {d0 d1 d2 d3 : DataW Unit} {bytes : List UInt8} {m : Int} (hD : (xs.map (·.1))[k]? = some (.agg [d0, .agg [.lit (.string bytes), d1, d2, d3], .lit (.int .i64 m)])) :
    W.cell? ⟨0, k * 6 + 1, none⟩ = some (.string ⟨bytes.toArray⟩) ∧ W.cell? ⟨0, k * 6 + 5, none⟩ = some (.int .i64 m) := by
  have h := hel k hk
  rw [List.getElem?_map] at hD
  obtain ⟨y, hy, hyD⟩ := Option.map_eq_some_iff.1 hD
  rw [hy, cells79] at h
  obtain ⟨a0, a1, a2, a3, s, m', c1, c5, hx⟩ := open_sort h
  rw [hyD] at hx
  simp only [DataW.agg.injEq, List.cons.injEq, DataW.lit.injEq, Lit.string.injEq, Lit.int.injEq, and_true, true_and] at hx
  obtain ⟨_, ⟨hs, _⟩, hm⟩ := hx
  rw [List.getElem?_take_of_lt (by decide), List.getElem?_drop, Array.getElem?_toList] at c1 c5
  have e1 := World.var?_cell gSorts hv (k * 6 + 1)
  have e5 := World.var?_cell gSorts hv (k * 6 + 5)
  have hs' : s = ⟨bytes.toArray⟩ := by rw [hs]
  refine ⟨?_, ?_⟩
  · rw [e1, c1, hs']
  · rw [e5, c5, hm]

/-- What the laid table gives the walks. -/
theorem sorts_of_laid {W : World} (h : laidMetH Tryd.prog [("intermede/policy.sorts", Rows.laid_intermede_policy_sorts)] W) : SortsAt W := by
  rw [MakeChecks.laidMetH_plain _ _ _ (by kernel_rfl)] at h
  obtain ⟨ps, ⟨g0, t0, cs0, f0, p0, q0, hg0, ht0, hv0, hd0, _⟩, _⟩ := h
  obtain rfl := Option.some.inj (gSorts.symm.trans hg0)
  obtain rfl := Option.some.inj (tSorts.symm.trans ht0)
  obtain ⟨xs, m1, rfl, hx1, hlen, hn, hel⟩ := DataW.trod_array Tryd.underlying62 hd0
  simp only [Prod.mk.injEq, Rows.laid_intermede_policy_sorts, DataW.agg.injEq] at hx1
  have hL := hx1.1.symm
  intro k h1 h2
  have hh : k = 1 ∨ k = 2 ∨ k = 3 ∨ k = 4 ∨ k = 5 ∨ k = 6 ∨ k = 7 ∨ k = 8 ∨ k = 9 ∨ k = 10 ∨ k = 11 ∨ k = 12 ∨ k = 13 := by omega
  clear h1 h2
  rcases hh with rfl | rfl | rfl | rfl | rfl | rfl | rfl | rfl | rfl | rfl | rfl | rfl | rfl
  · obtain ⟨c1, c5⟩ := sort_at hv0 hel 1 (by decide) (by rw [hL]; rfl)
    exact ⟨_, c1, by rw [ByteArray.toList_mk]; decide, c5⟩
  · obtain ⟨c1, c5⟩ := sort_at hv0 hel 2 (by decide) (by rw [hL]; rfl)
    exact ⟨_, c1, by rw [ByteArray.toList_mk]; decide, c5⟩
  · obtain ⟨c1, c5⟩ := sort_at hv0 hel 3 (by decide) (by rw [hL]; rfl)
    exact ⟨_, c1, by rw [ByteArray.toList_mk]; decide, c5⟩
  · obtain ⟨c1, c5⟩ := sort_at hv0 hel 4 (by decide) (by rw [hL]; rfl)
    exact ⟨_, c1, by rw [ByteArray.toList_mk]; decide, c5⟩
  · obtain ⟨c1, c5⟩ := sort_at hv0 hel 5 (by decide) (by rw [hL]; rfl)
    exact ⟨_, c1, by rw [ByteArray.toList_mk]; decide, c5⟩
  · obtain ⟨c1, c5⟩ := sort_at hv0 hel 6 (by decide) (by rw [hL]; rfl)
    exact ⟨_, c1, by rw [ByteArray.toList_mk]; decide, c5⟩
  · obtain ⟨c1, c5⟩ := sort_at hv0 hel 7 (by decide) (by rw [hL]; rfl)
    exact ⟨_, c1, by rw [ByteArray.toList_mk]; decide, c5⟩
  · obtain ⟨c1, c5⟩ := sort_at hv0 hel 8 (by decide) (by rw [hL]; rfl)
    exact ⟨_, c1, by rw [ByteArray.toList_mk]; decide, c5⟩
  · obtain ⟨c1, c5⟩ := sort_at hv0 hel 9 (by decide) (by rw [hL]; rfl)
    exact ⟨_, c1, by rw [ByteArray.toList_mk]; decide, c5⟩
  · obtain ⟨c1, c5⟩ := sort_at hv0 hel 10 (by decide) (by rw [hL]; rfl)
    exact ⟨_, c1, by rw [ByteArray.toList_mk]; decide, c5⟩
  · obtain ⟨c1, c5⟩ := sort_at hv0 hel 11 (by decide) (by rw [hL]; rfl)
    exact ⟨_, c1, by rw [ByteArray.toList_mk]; decide, c5⟩
  · obtain ⟨c1, c5⟩ := sort_at hv0 hel 12 (by decide) (by rw [hL]; rfl)
    exact ⟨_, c1, by rw [ByteArray.toList_mk]; decide, c5⟩
  · obtain ⟨c1, c5⟩ := sort_at hv0 hel 13 (by decide) (by rw [hL]; rfl)
    exact ⟨_, c1, by rw [ByteArray.toList_mk]; decide, c5⟩

theorem open_pol {H : Type} {enc : TypeId × Value → H} {W : World} {sp : Nat → Bool} {held : Bool} {n : Nat} {cs : List Value} {x : DataW H × List MemPlace} (h : DataW.trod enc Tryd.prog W 0 sp held n 24 cs = some x) :
    ∃ y : PolD, cs = [.int .i64 y.k, .int .i64 y.v] := by
  obtain ⟨xs, m, _, hx, hl, hlen, hf⟩ := DataW.trod_struct Tryd.underlying24 h
  rw [cells46] at hl
  match cs, hl with
  | [v0, v1], _ =>
    have h0 := hf 0 _ rfl
    have h1 := hf 1 _ rfl
    simp [cellsOf3] at h0 h1
    match xs, hlen with
    | [y0, y1], _ =>
      obtain ⟨k, e0, _⟩ := DataW.trod_int Tryd.underlying3 (show DataW.trod enc Tryd.prog W 0 sp held m 3 [v0] = some y0 from h0)
      obtain ⟨v, e1, _⟩ := DataW.trod_int Tryd.underlying3 (show DataW.trod enc Tryd.prog W 0 sp held m 3 [v1] = some y1 from h1)
      simp at e0 e1
      subst e0 e1
      exact ⟨⟨k, v⟩, rfl⟩

/-- A list of policies that came in is a row. -/
theorem polsArg {H : Type} {enc : TypeId × Value → H} {W : World} {a0 : Option Addr} {len cap : Nat} {d : DataW H} {p : List MemPlace}
    (h : DataW.Trod enc Tryd.prog W 0 (fun _ => true) true 22 (.slice a0 len cap) d p) : ∃ l : List PolD, l.length = len ∧ RowAt W a0 l := by
  obtain ⟨fuel, hf⟩ := h
  rcases Go.Deep.open_slice Tryd.underlying22 hf with ⟨hcs, _⟩ | ⟨a, len', cap', m, n, D, Pl, hcs, hbase, hlc, hcm, hm, hx, hel⟩
  · have e : Value.slice a0 len cap = .slice none 0 0 := by simpa [Value.cells] using hcs
    obtain ⟨rfl, rfl, rfl⟩ : a0 = none ∧ len = 0 ∧ cap = 0 := by simpa using e
    exact ⟨[], rfl, .inl rfl⟩
  · have e : Value.slice a0 len cap = .slice (some a) len' cap' := by simpa [Value.cells] using hcs
    obtain ⟨rfl, rfl, rfl⟩ : a0 = some a ∧ len = len' ∧ cap = cap' := by simpa using e
    simp only [if_true] at hm
    by_cases h0 : len = 0
    · subst h0
      exact ⟨[], rfl, .inl rfl⟩
    · have each : ∀ i, i < len → ∃ y : PolD, W.cell? (a.add (i * 2)) = some (.int .i64 y.k) ∧ W.cell? (a.add (i * 2 + 1)) = some (.int .i64 y.v) := by
        intro i hi
        obtain ⟨cs', hc, ht⟩ := hel i (by omega)
        rw [cells46] at hc
        obtain ⟨y, rfl⟩ := open_pol ht
        obtain ⟨_, _, hcell⟩ := World.cells?_some hc
        have e0 := hcell 0 (by omega)
        have e1 := hcell 1 (by omega)
        rw [Go.Deep.add_add] at e0 e1
        exact ⟨y, by simpa using e0, by simpa using e1⟩
      obtain ⟨f, hfy⟩ := Go.Deep.choose_lt each
      have hspot : a.spot = none := by
        have h1 := (hfy 0 (by omega)).1
        have h2 : a.add (0 * 2) = a := by unfold Addr.add; simp
        rw [h2] at h1
        unfold World.cell? at h1
        split at h1
        · split at h1
          · cases h1
          · rename_i hs
            simpa using hs
        · cases h1
      obtain ⟨blk, off, spot⟩ := a
      simp only at hspot
      subst hspot
      have hadd : ∀ j, (⟨blk, off, none⟩ : Addr).add j = ⟨blk, off + j, none⟩ := fun j => by unfold Addr.add; split <;> simp_all
      have hlb : blk < W.heap.size := World.block_lt_of_cell? W _ (hfy 0 (by omega)).1
      refine ⟨(List.range len).map f, by simp, .inr ⟨blk, off, rfl, hlb, fun i hi => ?_⟩⟩
      have hi' : i < len := by simpa using hi
      obtain ⟨g0, g1⟩ := hfy i hi'
      rw [hadd] at g0 g1
      simp only [List.getElem_map, List.getElem_range]
      exact ⟨g0, by simpa [Nat.add_assoc] using g1⟩

/-- A list of policies that came in is a slice of policies. -/
theorem slArg {H : Type} {enc : TypeId × Value → H} {W : World} {a0 : Option Addr} {len cap : Nat} {d : DataW H} {p : List MemPlace}
    (h : DataW.Trod enc Tryd.prog W 0 (fun _ => true) true 22 (.slice a0 len cap) d p) : ∃ s : SlD, s.a = a0 ∧ s.l.length = len ∧ s.c = cap ∧ s.Ok W := by
  obtain ⟨l, hl, hr⟩ := polsArg h
  obtain ⟨fuel, hf⟩ := h
  refine ⟨⟨a0, l, cap⟩, rfl, hl, rfl, ?_⟩
  rcases Go.Deep.open_slice Tryd.underlying22 hf with ⟨hcs, _⟩ | ⟨a, len', cap', m, n, D, Pl, hcs, hbase, hlc, _⟩
  · have e : Value.slice a0 len cap = .slice none 0 0 := by simpa [Value.cells] using hcs
    obtain ⟨rfl, rfl, rfl⟩ : a0 = none ∧ len = 0 ∧ cap = 0 := by simpa using e
    exact ⟨by rw [hl]; exact Nat.le_refl _, hr, fun _ => ⟨List.eq_nil_of_length_eq_zero hl, rfl⟩⟩
  · have e : Value.slice a0 len cap = .slice (some a) len' cap' := by simpa [Value.cells] using hcs
    obtain ⟨rfl, rfl, rfl⟩ : a0 = some a ∧ len = len' ∧ cap = cap' := by simpa using e
    exact ⟨by rw [hl]; exact hlc, hr, fun h => by cases h⟩

namespace policySets

theorem law_any (ds : SlD) (pk pv q : Int) (w : World) (hS : SortsAt w) (h : ds.Ok w) :
    Calls Tryd.prog 3 #[.slice ds.a ds.l.length ds.c, .agg #[.int .i64 pk, .int .i64 pv], .int .i64 q] w fun e w' => e = .returned (.bool true) ∧ Below w.heap.size w w' := by
  by_cases hl : ds.l.length ≤ 200
  · exact sets_short ds pk pv q w hS h hl
  · exact sets_long ds.a ds.l.length ds.c pk pv q w hS hl

/-- The door's own heap meets the condition. -/
theorem door_met (os : Os) (args : Array Value) : laidMetH Tryd.prog [("intermede/policy.sorts", Rows.laid_intermede_policy_sorts)] ((World.doorLaid Tryd.prog 400 os).forCall (fun _ _ => 0) ⟨#[], args, []⟩).memory :=
  laidMetH_of_parts3 (fuel := 8) (laidMet_of_run' 8 (by kernel_rfl) (by kernel_rfl)) (by kernel_rfl) (by kernel_rfl)

set_option maxRecDepth 100000 in
theorem lifted (os : Os) (started : os.Started) (H : Type) (enc : TypeId × Value → H) :
    ReturnsInHanded {} Tryd.checked os 3 .any (fun w args => (Rows.policySetsSpec.pre enc Tryd.prog Tryd.f3 [] false w args ∧ laidMetH Tryd.prog [("intermede/policy.sorts", Rows.laid_intermede_policy_sorts)] w) ∧ sizedMet enc Tryd.prog Tryd.f3 (OpenSpec.ofChange Rows.policySetsSpec) false w args)
      (Rows.policySetsSpec.post enc Tryd.prog Tryd.f3 false true false false) := by
  refine returnsInHanded_of_change_and (C := Tryd.checked) (X := fun w _ => laidMetH Tryd.prog [("intermede/policy.sorts", Rows.laid_intermede_policy_sorts)] w) (fun _ _ _ hh h => h.of_heap hh) own started (by kernel_rfl) Tryd.func3
    (ChangeSpec.witness_shaped (enc := enc) (C := Tryd.checked) (os := os) (X := fun w _ => laidMetH Tryd.prog [("intermede/policy.sorts", Rows.laid_intermede_policy_sorts)] w) false (World.doorLaid Tryd.prog 400 os) #[.slice none 0 0, .agg #[.int .i64 0, .int .i64 0], .int .i64 0] 8 rfl (World.shaped_of_RefB (by kernel_rfl) (by kernel_rfl)) (by kernel_rfl) (by kernel_rfl) (by kernel_rfl) (door_met os _)) ?_
  intro W base args ds gs before hval0 hW _ _ hL _
  have hval : ∀ (j : Nat) t v, Tryd.f3.params[j]? = some t → args[j]? = some v → Value.okWide Tryd.prog W .any base t v := hval0
  have hW' := hW
  obtain ⟨p, q, hA0, hV, rfl, hfz, hnd⟩ := hW
  have hA : DataW.TrodAll enc Tryd.prog W 0 (fun _ => true) true Tryd.f3.params.toList args.toList ds p := hA0
  rw [Tryd.params3] at hA hval
  obtain ⟨v0, vs0, d0, ds0, p0, q0, hargs, rfl, rfl, h0, r0⟩ := trodAll_cons hA
  obtain ⟨v1, vs1, d1, ds1, p1, q1, rfl, rfl, rfl, h1, r1⟩ := trodAll_cons r0
  obtain ⟨v2, vs2, d2, ds2, p2, q2, rfl, rfl, rfl, h2, r2⟩ := trodAll_cons r1
  obtain ⟨rfl, rfl, rfl⟩ := trodAll_nil r2
  obtain rfl : args = #[v0, v1, v2] := by cases args; simp_all
  obtain ⟨rfl, rfl⟩ := trodVars_none hV
  obtain ⟨a0, len0, cap0, rfl⟩ := okWide_slice Tryd.underlying22 (hval 0 22 v0 rfl rfl)
  obtain ⟨cs1, rfl, hcs1⟩ := okWide_struct Tryd.underlying24 (hval 1 24 v1 rfl rfl)
  obtain ⟨q, rfl⟩ := okWide_int Tryd.underlying3 (hval 2 3 v2 rfl rfl)
  clear hA0 hval0 hA
  simp only [List.append_nil] at hW'
  have hlt : ∀ x ∈ p0 ++ (p1 ++ p2), x.block < W.heap.size := fun x hx => by simpa using hW'.lt x (by simpa using hx)
  obtain ⟨s0, rfl, rfl, rfl, hr0⟩ := slArg h0
  obtain ⟨y, rfl⟩ : ∃ y : PolD, cs1 = #[.int .i64 y.k, .int .i64 y.v] := by
    obtain ⟨fuel, hf⟩ := h1
    obtain ⟨y, hy⟩ := open_pol hf
    exact ⟨y, by apply Array.toList_inj.1; simpa [Value.cells] using hy⟩
  refine (law_any s0 y.k y.v q W (sorts_of_laid hL) hr0).mono fun e W' ⟨he, hg⟩ => ?_
  subst he
  exact ⟨_, rfl, _, _, _, [], _, [], hW', trodAll_cons_mk (shut_bool Tryd.underlying4 _) trodAll_mk0, trodAll_cons_mk (Below.trod (by kernel_rfl) (by kernel_rfl) (of_decide_eq_true (by kernel_rfl)) h0 hg (fun x hx => hlt x (List.mem_append_left _ hx))) (trodAll_cons_mk (Below.trod (by kernel_rfl) (by kernel_rfl) (of_decide_eq_true (by kernel_rfl)) h1 hg (fun x hx => hlt x (List.mem_append_right _ (List.mem_append_left _ hx)))) (trodAll_cons_mk (Below.trod (by kernel_rfl) (by kernel_rfl) (of_decide_eq_true (by kernel_rfl)) h2 hg (fun x hx => hlt x (List.mem_append_right _ (List.mem_append_right _ hx)))) trodAll_mk0)), rfl, hg.frame _, fun h => by cases h⟩

theorem holds : Rows.PolicySetsSaid :=
  OpenClaim.holds_of_wide 3 Tryd.f3 rfl rfl rfl rfl rfl rfl rfl ⟨rfl, rfl, rfl, rfl, rfl⟩ rfl rfl rfl rfl rfl (by kernel_rfl) Tryd.func3 (by kernel_rfl)
    (of_decide_eq_true (by kernel_rfl)) (by unfold Func.isWrapper; first | (rw [if_pos (by decide +kernel)]; kernel_rfl) | (rw [if_neg (by decide +kernel)]; exact ⟨rfl, rfl⟩))
    (fun os started H enc _ => lifted os started H enc)

/-- THE TIED CARD -/
theorem proved : Rows.PolicySetsCardSaid :=
  Claim7.holds_tied_plain_at .later [] [.data] true (true, "22d1372a0274a076f4346ce85d6f5dc0d16e8639793f45ff07a81c77a4040a1e") true
    holds (fun _ h => by cases h) (by kernel_rfl) (fun _ h => by cases h) policySets_row_tie rfl ⟨rfl, rfl⟩ (by kernel_rfl) rfl
    (fun f fn hf hfn => by
      obtain rfl : f = 3 := Option.some.inj ((show Tryd.prog.funcNamed "intermede/intermedelaw18.PolicySets" = some 3 by kernel_rfl).symm.trans hf) |>.symm
      obtain rfl : fn = Tryd.f3 := (Option.some.inj (Tryd.func3.symm.trans hfn)).symm
      exact ⟨by kernel_rfl, fun j t ht => by
        rw [Tryd.params3] at ht
        have hm : t ∈ [22, 24, 3] := by simpa using Array.mem_of_getElem? ht
        have hall : ([22, 24, 3].all fun u => !Tryd.prog.wantsStandIn u) = true := by kernel_rfl
        exact (show Tryd.prog.wantsStandIn t = false by simpa using List.all_eq_true.1 hall t hm)⟩)
    (by kernel_rfl)
#print axioms proved
end policySets
end Go.Proofs.YtladjkkkhomngaaDoor
