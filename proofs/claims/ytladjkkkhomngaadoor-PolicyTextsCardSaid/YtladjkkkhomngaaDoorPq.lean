/-
  PROVED HERE: the law PolicyTexts of the translated program returns true for every list of policies and every text, with no condition; of the memory that there was nothing changes. The tables and the two errors of the library, and the table of the package policy, are what the program's text lays (the card ties them).
-/
import Derived.Test.YtladjkkkhomngaaDoorPp
import Derived.Test.YtladjkkkhomngaaDoorRows
import Derived.Test.YtladjkkkhomngaaDoorCards
import Derived.Test.YtladjkkkhomngaaDoorTie
import Derived.ProofKit
import Derived.LaidMore
import Derived.Lay
import Derived.OpenShut
import Derived.ShutString
import Derived.SizedLaws
import Derived.Stop.Joined
import Derived.Deep.Slices
import Derived.Deep.Strs
import Derived.Lib.SmallJoins
import Derived.SevenTiedAt
namespace Go.Proofs.YtladjkkkhomngaaDoor
set_option maxRecDepth 8000
open Go.ChangeShapes Go.WideShapes Go.ChangeAt Go.RowKit

theorem own : ownKnob Tryd.prog.godebug = none := by kernel_rfl
theorem gSorts : Tryd.prog.globalNamed "intermede/policy.sorts" = some 0 := by kernel_rfl
theorem tSorts : (Tryd.prog.globals[0]?).map (·.type) = some 62 := by kernel_rfl
theorem gSyn : Tryd.prog.globalNamed "strconv.ErrSyntax" = some 2 := by kernel_rfl
theorem tSyn : (Tryd.prog.globals[2]?).map (·.type) = some 77 := by kernel_rfl
theorem gRng : Tryd.prog.globalNamed "strconv.ErrRange" = some 3 := by kernel_rfl
theorem tRng : (Tryd.prog.globals[3]?).map (·.type) = some 77 := by kernel_rfl
theorem tPow : (Tryd.prog.globals[4]?).map (·.type) = some 159 := by kernel_rfl
theorem cells79 : Tryd.prog.cellsOf 61 = 6 := by kernel_rfl
theorem cells80 : Tryd.prog.cellsOf 62 = 84 := by kernel_rfl
theorem cells46 : Tryd.prog.cellsOf 24 = 2 := by kernel_rfl
theorem cellsOf3 : Tryd.prog.cellsOf 3 = 1 := by kernel_rfl
theorem cells77 : Tryd.prog.cellsOf 59 = 4 := by kernel_rfl
theorem cells9 : Tryd.prog.cellsOf 9 = 1 := by kernel_rfl
theorem cells114 : Tryd.prog.cellsOf 114 = 1 := by kernel_rfl
theorem cells159 : Tryd.prog.cellsOf 159 = 20 := by kernel_rfl

/-- A kind's entry in the table, off its reading. -/
theorem open_entry {H : Type} {enc : TypeId × Value → H} {W : World} {sp : Nat → Bool} {held : Bool} {n : Nat} {cs : List Value} {x : DataW H × List MemPlace} (h : DataW.trod enc Tryd.prog W 0 sp held n 61 cs = some x) :
    ∃ (s0 s1 s2 s3 s4 : ByteArray) (m : Int), cs = [.string s0, .string s1, .string s2, .string s3, .string s4, .int .i64 m] ∧ x.1 = .agg [.lit (.string s0.data.toList), .agg [.lit (.string s1.data.toList), .lit (.string s2.data.toList), .lit (.string s3.data.toList), .lit (.string s4.data.toList)], .lit (.int .i64 m)] := by
  obtain ⟨y0, y1, y2, n', rfl, hl, h0, h1, h2⟩ := Go.Deep.trod_struct3 Tryd.underlying61 h
  rw [cells79] at hl
  match cs, hl with
  | [v0, v1, v2, v3, v4, v5], _ =>
    simp [cells9] at h0
    simp [cells77] at h1
    simp [cellsOf3] at h2
    obtain ⟨s0, a1, a2, _⟩ := DataW.trod_string Tryd.underlying9 h0
    obtain ⟨m, e2, e3, _⟩ := DataW.trod_int Tryd.underlying3 h2
    obtain ⟨xs, m1, rfl, hx1, _, hn, hel⟩ := DataW.trod_array Tryd.underlying59 h1
    have g0 := hel 0 (by decide)
    have g1 := hel 1 (by decide)
    have g2 := hel 2 (by decide)
    have g3 := hel 3 (by decide)
    match xs, hn with
    | [z0, z1, z2, z3], _ =>
      simp [cells9] at g0 g1 g2 g3
      obtain ⟨s1, b1, c1, _⟩ := DataW.trod_string Tryd.underlying9 g0
      obtain ⟨s2, b2, c2, _⟩ := DataW.trod_string Tryd.underlying9 g1
      obtain ⟨s3, b3, c3, _⟩ := DataW.trod_string Tryd.underlying9 g2
      obtain ⟨s4, b4, c4, _⟩ := DataW.trod_string Tryd.underlying9 g3
      simp at e2 a1 b1 b2 b3 b4
      subst e2 a1 b1 b2 b3 b4
      exact ⟨s0, s1, s2, s3, s4, m, rfl, by rw [hx1, e3, a2]; simp [c1, c2, c3, c4]⟩

theorem entry_at {W : World} {cs0 : Array Value} (hv : W.var? Tryd.prog "intermede/policy.sorts" = some cs0) {m1 : Nat} {sp : Nat → Bool} {held : Bool} {enc : TypeId × Value → Unit} {xs : List (DataW Unit × List MemPlace)} (hel : ∀ i, i < 14 → DataW.trod enc Tryd.prog W 0 sp held m1 61 ((cs0.toList.drop (i * Tryd.prog.cellsOf 61)).take (Tryd.prog.cellsOf 61)) = xs[i]?)
    (k : Nat) (hk : k < 14) {b0 b1 b2 b3 b4 : List UInt8} {m : Int} (hD : (xs.map (·.1))[k]? = some (.agg [.lit (.string b0), .agg [.lit (.string b1), .lit (.string b2), .lit (.string b3), .lit (.string b4)], .lit (.int .i64 m)])) :
    W.cell? ⟨0, k * 6, none⟩ = some (.string ⟨b0.toArray⟩) ∧ W.cell? ⟨0, k * 6 + 1, none⟩ = some (.string ⟨b1.toArray⟩) ∧ W.cell? ⟨0, k * 6 + 2, none⟩ = some (.string ⟨b2.toArray⟩) ∧ W.cell? ⟨0, k * 6 + 3, none⟩ = some (.string ⟨b3.toArray⟩) ∧ W.cell? ⟨0, k * 6 + 4, none⟩ = some (.string ⟨b4.toArray⟩) ∧ W.cell? ⟨0, k * 6 + 5, none⟩ = some (.int .i64 m) := by
  have h := hel k hk
  rw [List.getElem?_map] at hD
  obtain ⟨y, hy, hyD⟩ := Option.map_eq_some_iff.1 hD
  rw [hy, cells79] at h
  obtain ⟨s0, s1, s2, s3, s4, m', hcs, hx⟩ := open_entry h
  rw [hyD] at hx
  simp only [DataW.agg.injEq, List.cons.injEq, DataW.lit.injEq, Lit.string.injEq, Lit.int.injEq, and_true, true_and] at hx
  obtain ⟨e0, ⟨e1, e2, e3, e4⟩, em⟩ := hx
  have cell : ∀ i, i < 6 → W.cell? ⟨0, k * 6 + i, none⟩ = ((cs0.toList.drop (k * 6)).take 6)[i]? := fun i hi => by
    rw [List.getElem?_take_of_lt hi, List.getElem?_drop, Array.getElem?_toList]
    exact World.var?_cell gSorts hv (k * 6 + i)
  have t0 : s0 = ⟨b0.toArray⟩ := by rw [e0]
  have t1 : s1 = ⟨b1.toArray⟩ := by rw [e1]
  have t2 : s2 = ⟨b2.toArray⟩ := by rw [e2]
  have t3 : s3 = ⟨b3.toArray⟩ := by rw [e3]
  have t4 : s4 = ⟨b4.toArray⟩ := by rw [e4]
  rw [hcs] at cell
  rw [← t0, ← t1, ← t2, ← t3, ← t4, em]
  exact ⟨cell 0 (by decide), cell 1 (by decide), cell 2 (by decide), cell 3 (by decide), cell 4 (by decide), cell 5 (by decide)⟩

/-- What a kind's entry gives. -/
def EntryIs (W : World) (k : Nat) : Prop := (∃ s : ByteArray, W.cell? ⟨0, k * 6 + 1, none⟩ = some (.string s) ∧ (s.toList.isEmpty = true ↔ (k = 10 ∨ k = 12)) ∧ W.cell? ⟨0, k * 6 + 5, none⟩ = some (.int .i64 (mostV k))) ∧ ∀ j : Nat, j < 5 → W.cell? ⟨0, k * 6 + j, none⟩ = some (.string ((wordsN k).getD j ⟨#[]⟩))
theorem entry_mk {W : World} {k : Nat} {b0 b1 b2 b3 b4 : List UInt8} {m : Int} (h : W.cell? ⟨0, k * 6, none⟩ = some (.string ⟨b0.toArray⟩) ∧ W.cell? ⟨0, k * 6 + 1, none⟩ = some (.string ⟨b1.toArray⟩) ∧ W.cell? ⟨0, k * 6 + 2, none⟩ = some (.string ⟨b2.toArray⟩) ∧ W.cell? ⟨0, k * 6 + 3, none⟩ = some (.string ⟨b3.toArray⟩) ∧ W.cell? ⟨0, k * 6 + 4, none⟩ = some (.string ⟨b4.toArray⟩) ∧ W.cell? ⟨0, k * 6 + 5, none⟩ = some (.int .i64 m))
    (hm : m = mostV k) (he : b1.isEmpty = true ↔ (k = 10 ∨ k = 12)) (hw : ∀ j, j < 5 → [(⟨b0.toArray⟩ : ByteArray), ⟨b1.toArray⟩, ⟨b2.toArray⟩, ⟨b3.toArray⟩, ⟨b4.toArray⟩].getD j ⟨#[]⟩ = (wordsN k).getD j ⟨#[]⟩) : EntryIs W k := by
  obtain ⟨c0, c1, c2, c3, c4, c5⟩ := h
  refine ⟨⟨_, c1, by rw [ByteArray.toList_mk]; simpa using he, by rw [← hm]; exact c5⟩, fun j hj => ?_⟩
  rw [← hw j hj]
  match j, hj with
  | 0, _ => exact c0
  | 1, _ => exact c1
  | 2, _ => exact c2
  | 3, _ => exact c3
  | 4, _ => exact c4

abbrev laid8 : List (String × DataW Unit) := [("math/bits.deBruijn32tab", Rows.laid_math_bits_deBruijn32tab), ("math/bits.deBruijn64tab", Rows.laid_math_bits_deBruijn64tab), ("internal/strconv.uint64pow10", Rows.laid_internal_strconv_uint64pow10), ("unicode/utf8.acceptRanges", Rows.laid_unicode_utf8_acceptRanges), ("strconv.ErrRange", Rows.laid_strconv_ErrRange), ("strconv.ErrSyntax", Rows.laid_strconv_ErrSyntax), ("intermede/policy.sorts", Rows.laid_intermede_policy_sorts), ("unicode/utf8.first", Rows.laid_unicode_utf8_first)]

theorem entries_of {W : World} {cs0 : Array Value} {f0 : Nat} {p0 : List MemPlace} (hv0 : W.var? Tryd.prog "intermede/policy.sorts" = some cs0) (hd0 : DataW.trod (fun _ => ()) Tryd.prog W 0 (fun _ => true) false f0 62 cs0.toList = some (Rows.laid_intermede_policy_sorts, p0)) (k : Nat) (h1 : 1 ≤ k) (h2 : k ≤ 13) : EntryIs W k := by
  obtain ⟨xs, m1, rfl, hx1, hlen, hn, hel⟩ := DataW.trod_array Tryd.underlying62 hd0
  simp only [Prod.mk.injEq, Rows.laid_intermede_policy_sorts, DataW.agg.injEq] at hx1
  have hL := hx1.1.symm
  have hh : k = 1 ∨ k = 2 ∨ k = 3 ∨ k = 4 ∨ k = 5 ∨ k = 6 ∨ k = 7 ∨ k = 8 ∨ k = 9 ∨ k = 10 ∨ k = 11 ∨ k = 12 ∨ k = 13 := by omega
  clear h1 h2
  rcases hh with rfl | rfl | rfl | rfl | rfl | rfl | rfl | rfl | rfl | rfl | rfl | rfl | rfl
  · exact entry_mk (entry_at hv0 hel 1 (by decide) (by rw [hL]; rfl)) (by decide) (by decide) (by decide)
  · exact entry_mk (entry_at hv0 hel 2 (by decide) (by rw [hL]; rfl)) (by decide) (by decide) (by decide)
  · exact entry_mk (entry_at hv0 hel 3 (by decide) (by rw [hL]; rfl)) (by decide) (by decide) (by decide)
  · exact entry_mk (entry_at hv0 hel 4 (by decide) (by rw [hL]; rfl)) (by decide) (by decide) (by decide)
  · exact entry_mk (entry_at hv0 hel 5 (by decide) (by rw [hL]; rfl)) (by decide) (by decide) (by decide)
  · exact entry_mk (entry_at hv0 hel 6 (by decide) (by rw [hL]; rfl)) (by decide) (by decide) (by decide)
  · exact entry_mk (entry_at hv0 hel 7 (by decide) (by rw [hL]; rfl)) (by decide) (by decide) (by decide)
  · exact entry_mk (entry_at hv0 hel 8 (by decide) (by rw [hL]; rfl)) (by decide) (by decide) (by decide)
  · exact entry_mk (entry_at hv0 hel 9 (by decide) (by rw [hL]; rfl)) (by decide) (by decide) (by decide)
  · exact entry_mk (entry_at hv0 hel 10 (by decide) (by rw [hL]; rfl)) (by decide) (by decide) (by decide)
  · exact entry_mk (entry_at hv0 hel 11 (by decide) (by rw [hL]; rfl)) (by decide) (by decide) (by decide)
  · exact entry_mk (entry_at hv0 hel 12 (by decide) (by rw [hL]; rfl)) (by decide) (by decide) (by decide)
  · exact entry_mk (entry_at hv0 hel 13 (by decide) (by rw [hL]; rfl)) (by decide) (by decide) (by decide)

theorem laid_pow10 : (Rows.laid_internal_strconv_uint64pow10 : DataW Unit) = Lib.tabData .u64 Lib.pow10Tab := by rfl
/-- What the laid tables and errors give the walks. -/
theorem env_of_laid {W : World} (h : laidMetH Tryd.prog laid8 W) (hs : W.ShapedOpen Tryd.prog) : TxtEnv W := by
  rw [MakeChecks.laidMetH_plain _ _ _ (by kernel_rfl)] at h
  obtain ⟨ps, ⟨_, _, _, _, _, _, _, _, _, _, ⟨_, _, _, _, _, _, _, _, _, _, ⟨g2, t2, cs2, f2, p2, q2, hg2, ht2, hv2, hd2, ⟨_, _, _, _, _, _, _, _, _, _, ⟨g4, t4, cs4, f4, p4, q4, hg4, ht4, hv4, hd4, ⟨g5, t5, cs5, f5, p5, q5, hg5, ht5, hv5, hd5, ⟨g6, t6, cs6, f6, p6, q6, hg6, ht6, hv6, hd6, _, _⟩, _⟩, _⟩, _⟩, _⟩, _⟩, _⟩, _⟩ := h
  obtain rfl := Option.some.inj (gPow.symm.trans hg2)
  obtain rfl := Option.some.inj (tPow.symm.trans ht2)
  obtain rfl := Option.some.inj (gRng.symm.trans hg4)
  obtain rfl := Option.some.inj (tRng.symm.trans ht4)
  obtain rfl := Option.some.inj (gSyn.symm.trans hg5)
  obtain rfl := Option.some.inj (tSyn.symm.trans ht5)
  obtain rfl := Option.some.inj (gSorts.symm.trans hg6)
  obtain rfl := Option.some.inj (tSorts.symm.trans ht6)
  have hE := entries_of hv6 hd6
  obtain ⟨_, u4, v4, e4, _⟩ := iface_of_trod Tryd.underlying77 hd4
  obtain ⟨_, u5, v5, e5, _⟩ := iface_of_trod Tryd.underlying77 hd5
  have c4 := World.var?_cell hg4 hv4 0
  have c5 := World.var?_cell hg5 hv5 0
  rw [← Array.getElem?_toList, e4] at c4
  rw [← Array.getElem?_toList, e5] at c5
  rw [laid_pow10] at hd2
  have h2 := Lib.cells_of_tab Tryd.underlying159 Tryd.underlying114 cells114 cells159 hd2
  refine ⟨fun k h1 h2 => (hE k h1 h2).1, fun k h1 h2 => (hE k h1 h2).2, ?_, ?_, ⟨u5, v5, by simpa using c5⟩, ⟨u4, v4, by simpa using c4⟩⟩
  · unfold Lib.TabIs
    rw [hv2, ← h2]
  · exact cell_of_shapedOpen_int (zero := #[.int .i64 0]) (g := 1) (t := 3) hs (of_decide_eq_true (by kernel_rfl)) (by kernel_rfl) rfl (by kernel_rfl) (by kernel_rfl) Tryd.underlying3

/-- The plain wrap, with the laid variables and the world's shape. -/
theorem handed_and_shaped {H : Type} {enc : TypeId × Value → H} {a : Assume} {C : Checked} {os : Os} {f : FuncId} {fn : Func} {s : ChangeSpec} {conds : List PathCond} {apart fresh handsOn again : Bool} {X : World → Array Value → Prop}
    (hX : ∀ (w w' : World) (args : Array Value), w.heap = w'.heap → X w args → X w' args)
    (own : ownKnob C.prog.godebug = none) (started : os.Started) (noInit : C.prog.inits.idxOf? f = none) (hfn : C.prog.funcs[f]? = some fn)
    (witness : ∃ (w : World) (tape : Tape) (i : Input), w.os = os ∧ (w.forCall tape i).Shaped C.prog ∧ i.vars = [] ∧ Input.okWide C.prog (w.forCall tape i) .any w.heap.size f i ∧
      ((s.pre enc C.prog fn conds apart (w.forCall tape i).memory i.args ∧ X (w.forCall tape i).memory i.args) ∧ sizedMet enc C.prog fn (OpenSpec.ofChange s) apart (w.forCall tape i).memory i.args) ∧ a.holds C.prog (lone (Frame.enter C.prog f i.args .normal) [] (w.forCall tape i)))
    (contract : ∀ (W : World) (base : Nat) (args : Array Value) (ds gs : List (DataW H)) (before : List MemPlace),
      (∀ (j : Nat) t v, fn.params[j]? = some t → args[j]? = some v → Value.okWide C.prog W .any base t v) →
      DataW.Whole enc C.prog fn.params.toList s.vars apart W args.toList ds gs before →
      X W args → W.ShapedOpen C.prog →
      Calls C.prog f args W fun e W' => ∃ v, e = .returned v ∧ s.post enc C.prog fn apart fresh handsOn again W args v W') :
    ReturnsInHanded a C os f .any (fun w args => (s.pre enc C.prog fn conds apart w args ∧ X w args) ∧ sizedMet enc C.prog fn (OpenSpec.ofChange s) apart w args) (s.post enc C.prog fn apart fresh handsOn again) := by
  refine returnsInHanded_of_calls own started noInit witness ?_
  intro w tape i _ hsh _ hok hpre hholds
  obtain ⟨_, _, _, fn', hfn', _, _, _, _, hval⟩ := hok
  have e : fn' = fn := Option.some.inj (hfn'.symm.trans hfn)
  subst e
  obtain ⟨⟨⟨ds, gs, before, hw, hc⟩, hx⟩, hz⟩ := hpre
  have hw' := DataW.Whole.of_heap (w' := w.forCall tape i) (by rfl) hw
  refine (contract (w.forCall tape i) w.heap.size i.args ds gs before hval hw' (hX _ _ _ (by rfl) hx) hsh).mono fun e W' ⟨v, he, hp⟩ => ?_
  subst he
  exact ChangeSpec.post_blind hp

theorem open_pol {H : Type} {enc : TypeId × Value → H} {W : World} {sp : Nat → Bool} {held : Bool} {n : Nat} {cs : List Value} {x : DataW H × List MemPlace} (h : DataW.trod enc Tryd.prog W 0 sp held n 24 cs = some x) :
    ∃ y : PolD, cs = [.int .i64 y.k, .int .i64 y.v] := by
  obtain ⟨xs, m, _, hx, hl, hlen, hf⟩ := DataW.trod_struct Tryd.underlying24 h
  rw [cells46] at hl
  match cs, hl with
  | [v0, v1], _ =>
    have h0 := hf 0 _ rfl
    have h1 := hf 1 _ rfl
    simp [cellsOf3] at h0 h1
    match xs, hlen with
    | [y0, y1], _ =>
      obtain ⟨k, e0, _⟩ := DataW.trod_int Tryd.underlying3 (show DataW.trod enc Tryd.prog W 0 sp held m 3 [v0] = some y0 from h0)
      obtain ⟨v, e1, _⟩ := DataW.trod_int Tryd.underlying3 (show DataW.trod enc Tryd.prog W 0 sp held m 3 [v1] = some y1 from h1)
      simp at e0 e1
      subst e0 e1
      exact ⟨⟨k, v⟩, rfl⟩

/-- A list of policies that came in is a row. -/
theorem polsArg {H : Type} {enc : TypeId × Value → H} {W : World} {a0 : Option Addr} {len cap : Nat} {d : DataW H} {p : List MemPlace}
    (h : DataW.Trod enc Tryd.prog W 0 (fun _ => true) true 22 (.slice a0 len cap) d p) : ∃ l : List PolD, l.length = len ∧ RowAt W a0 l := by
  obtain ⟨fuel, hf⟩ := h
  rcases Go.Deep.open_slice Tryd.underlying22 hf with ⟨hcs, _⟩ | ⟨a, len', cap', m, n, D, Pl, hcs, hbase, hlc, hcm, hm, hx, hel⟩
  · have e : Value.slice a0 len cap = .slice none 0 0 := by simpa [Value.cells] using hcs
    obtain ⟨rfl, rfl, rfl⟩ : a0 = none ∧ len = 0 ∧ cap = 0 := by simpa using e
    exact ⟨[], rfl, .inl rfl⟩
  · have e : Value.slice a0 len cap = .slice (some a) len' cap' := by simpa [Value.cells] using hcs
    obtain ⟨rfl, rfl, rfl⟩ : a0 = some a ∧ len = len' ∧ cap = cap' := by simpa using e
    simp only [if_true] at hm
    by_cases h0 : len = 0
    · subst h0
      exact ⟨[], rfl, .inl rfl⟩
    · have each : ∀ i, i < len → ∃ y : PolD, W.cell? (a.add (i * 2)) = some (.int .i64 y.k) ∧ W.cell? (a.add (i * 2 + 1)) = some (.int .i64 y.v) := by
        intro i hi
        obtain ⟨cs', hc, ht⟩ := hel i (by omega)
        rw [cells46] at hc
        obtain ⟨y, rfl⟩ := open_pol ht
        obtain ⟨_, _, hcell⟩ := World.cells?_some hc
        have e0 := hcell 0 (by omega)
        have e1 := hcell 1 (by omega)
        rw [Go.Deep.add_add] at e0 e1
        exact ⟨y, by simpa using e0, by simpa using e1⟩
      obtain ⟨f, hfy⟩ := Go.Deep.choose_lt each
      have hspot : a.spot = none := by
        have h1 := (hfy 0 (by omega)).1
        have h2 : a.add (0 * 2) = a := by unfold Addr.add; simp
        rw [h2] at h1
        unfold World.cell? at h1
        split at h1
        · split at h1
          · cases h1
          · rename_i hs
            simpa using hs
        · cases h1
      obtain ⟨blk, off, spot⟩ := a
      simp only at hspot
      subst hspot
      have hadd : ∀ j, (⟨blk, off, none⟩ : Addr).add j = ⟨blk, off + j, none⟩ := fun j => by unfold Addr.add; split <;> simp_all
      have hlb : blk < W.heap.size := World.block_lt_of_cell? W _ (hfy 0 (by omega)).1
      refine ⟨(List.range len).map f, by simp, .inr ⟨blk, off, rfl, hlb, fun i hi => ?_⟩⟩
      have hi' : i < len := by simpa using hi
      obtain ⟨g0, g1⟩ := hfy i hi'
      rw [hadd] at g0 g1
      simp only [List.getElem_map, List.getElem_range]
      exact ⟨g0, by simpa [Nat.add_assoc] using g1⟩

/-- A list of policies that came in is a slice of policies. -/
theorem slArg {H : Type} {enc : TypeId × Value → H} {W : World} {a0 : Option Addr} {len cap : Nat} {d : DataW H} {p : List MemPlace}
    (h : DataW.Trod enc Tryd.prog W 0 (fun _ => true) true 22 (.slice a0 len cap) d p) : ∃ s : SlD, s.a = a0 ∧ s.l.length = len ∧ s.c = cap ∧ s.Ok W := by
  obtain ⟨l, hl, hr⟩ := polsArg h
  obtain ⟨fuel, hf⟩ := h
  refine ⟨⟨a0, l, cap⟩, rfl, hl, rfl, ?_⟩
  rcases Go.Deep.open_slice Tryd.underlying22 hf with ⟨hcs, _⟩ | ⟨a, len', cap', m, n, D, Pl, hcs, hbase, hlc, _⟩
  · have e : Value.slice a0 len cap = .slice none 0 0 := by simpa [Value.cells] using hcs
    obtain ⟨rfl, rfl, rfl⟩ : a0 = none ∧ len = 0 ∧ cap = 0 := by simpa using e
    exact ⟨by rw [hl]; exact Nat.le_refl _, hr, fun _ => ⟨List.eq_nil_of_length_eq_zero hl, rfl⟩⟩
  · have e : Value.slice a0 len cap = .slice (some a) len' cap' := by simpa [Value.cells] using hcs
    obtain ⟨rfl, rfl, rfl⟩ : a0 = some a ∧ len = len' ∧ cap = cap' := by simpa using e
    exact ⟨by rw [hl]; exact hlc, hr, fun h => by cases h⟩

namespace policyTexts

theorem law_any (ds : SlD) (t : ByteArray) (w : World) (hT : TxtEnv w) (h : ds.Ok w) :
    Calls Tryd.prog 4 #[.slice ds.a ds.l.length ds.c, .string t] w fun e w' => e = .returned (.bool true) ∧ Below w.heap.size w w' := by
  by_cases hl : ds.l.length ≤ 200 ∧ t.size ≤ 1000
  · exact texts_short ds t w hT h hl.1 hl.2
  · exact texts_long ds.a ds.l.length ds.c t w hT.sorts hl

set_option maxRecDepth 100000 in
theorem lifted (os : Os) (started : os.Started) (H : Type) (enc : TypeId × Value → H) :
    ReturnsInHanded {} Tryd.checked os 4 .any (fun w args => (Rows.policyTextsSpec.pre enc Tryd.prog Tryd.f4 [] false w args ∧ laidMetH Tryd.prog laid8 w) ∧ sizedMet enc Tryd.prog Tryd.f4 (OpenSpec.ofChange Rows.policyTextsSpec) false w args)
      (Rows.policyTextsSpec.post enc Tryd.prog Tryd.f4 false true false false) := by
  refine handed_and_shaped (C := Tryd.checked) (X := fun w _ => laidMetH Tryd.prog laid8 w) (fun _ _ _ hh h => h.of_heap hh) own started (by kernel_rfl) Tryd.func4
    (ChangeSpec.witness_shaped (enc := enc) (C := Tryd.checked) (os := os) (X := fun w _ => laidMetH Tryd.prog laid8 w) false (World.laidAll Tryd.prog os laid8) #[.slice none 0 0, .string ⟨#[]⟩] 8 (World.laidAll_os _ _ _) (World.shaped_of_ZipB (by kernel_rfl) (by kernel_rfl)) (by kernel_rfl) (by kernel_rfl) (by kernel_rfl) (by rw [MakeChecks.laidMetH_plain _ _ _ (by kernel_rfl)]; exact laidMet_laidAll _ (by kernel_rfl) (by kernel_rfl))) ?_
  intro W base args ds gs before hval0 hW hL hsh
  have hval : ∀ (j : Nat) t v, Tryd.f4.params[j]? = some t → args[j]? = some v → Value.okWide Tryd.prog W .any base t v := hval0
  have hW' := hW
  obtain ⟨p, q, hA0, hV, rfl, hfz, hnd⟩ := hW
  have hA : DataW.TrodAll enc Tryd.prog W 0 (fun _ => true) true Tryd.f4.params.toList args.toList ds p := hA0
  rw [Tryd.params4] at hA hval
  obtain ⟨v0, vs0, d0, ds0, p0, q0, hargs, rfl, rfl, h0, r0⟩ := trodAll_cons hA
  obtain ⟨v1, vs1, d1, ds1, p1, q1, rfl, rfl, rfl, h1, r1⟩ := trodAll_cons r0
  obtain ⟨rfl, rfl, rfl⟩ := trodAll_nil r1
  obtain rfl : args = #[v0, v1] := by cases args; simp_all
  obtain ⟨rfl, rfl⟩ := trodVars_none hV
  obtain ⟨a0, len0, cap0, rfl⟩ := okWide_slice Tryd.underlying22 (hval 0 22 v0 rfl rfl)
  obtain ⟨t, rfl⟩ := okWide_string Tryd.underlying9 (hval 1 9 v1 rfl rfl)
  clear hA0 hval0 hA
  simp only [List.append_nil] at hW'
  have hlt : ∀ x ∈ p0 ++ p1, x.block < W.heap.size := fun x hx => by simpa using hW'.lt x (by simpa using hx)
  obtain ⟨s0, rfl, rfl, rfl, hr0⟩ := slArg h0
  refine (law_any s0 t W (env_of_laid hL hsh) hr0).mono fun e W' ⟨he, hg⟩ => ?_
  subst he
  exact ⟨_, rfl, _, _, _, [], _, [], hW', trodAll_cons_mk (shut_bool Tryd.underlying4 _) trodAll_mk0, trodAll_cons_mk (Below.trod (by kernel_rfl) (by kernel_rfl) (of_decide_eq_true (by kernel_rfl)) h0 hg (fun x hx => hlt x (List.mem_append_left _ hx))) (trodAll_cons_mk (Below.trod (by kernel_rfl) (by kernel_rfl) (of_decide_eq_true (by kernel_rfl)) h1 hg (fun x hx => hlt x (List.mem_append_right _ hx))) trodAll_mk0), rfl, hg.frame _, fun h => by cases h⟩

theorem holds : Rows.PolicyTextsSaid :=
  OpenClaim.holds_of_wide 4 Tryd.f4 rfl rfl rfl rfl rfl rfl rfl ⟨rfl, rfl, rfl, rfl, rfl⟩ rfl rfl rfl rfl rfl (by kernel_rfl) Tryd.func4 (by kernel_rfl)
    (of_decide_eq_true (by kernel_rfl)) (by unfold Func.isWrapper; first | (rw [if_pos (by decide +kernel)]; kernel_rfl) | (rw [if_neg (by decide +kernel)]; exact ⟨rfl, rfl⟩))
    (fun os started H enc _ => lifted os started H enc)

/-- THE TIED CARD -/
theorem proved : Rows.PolicyTextsCardSaid :=
  Claim7.holds_tied_plain_at .later [] [.data, .data, .data, .data, .sentinel, .sentinel, .data, .pinned] true (true, "22d1372a0274a076f4346ce85d6f5dc0d16e8639793f45ff07a81c77a4040a1e") true
    holds (fun _ h => by cases h) (by kernel_rfl) (fun _ h => by cases h) policyTexts_row_tie rfl ⟨rfl, rfl⟩ (by kernel_rfl) rfl
    (fun f fn hf hfn => by
      obtain rfl : f = 4 := Option.some.inj ((show Tryd.prog.funcNamed "intermede/intermedelaw18.PolicyTexts" = some 4 by kernel_rfl).symm.trans hf) |>.symm
      obtain rfl : fn = Tryd.f4 := (Option.some.inj (Tryd.func4.symm.trans hfn)).symm
      exact ⟨by kernel_rfl, fun j t ht => by
        rw [Tryd.params4] at ht
        have hm : t ∈ [22, 9] := by simpa using Array.mem_of_getElem? ht
        have hall : ([22, 9].all fun u => !Tryd.prog.wantsStandIn u) = true := by kernel_rfl
        exact (show Tryd.prog.wantsStandIn t = false by simpa using List.all_eq_true.1 hall t hm)⟩)
    (by kernel_rfl)
#print axioms proved
end policyTexts
end Go.Proofs.YtladjkkkhomngaaDoor
