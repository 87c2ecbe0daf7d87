/- What the laid tables give the walks; the wrap of a law. -/
import Derived.Test.YtnebjdjebnphnaaDoorGa
import Derived.Test.YtnebjdjebnphnaaDoorRows
import Derived.Test.YtnebjdjebnphnaaDoorCards
import Derived.Test.YtnebjdjebnphnaaDoorTie
import Derived.ProofKit
import Derived.LaidMore
import Derived.Lay
import Derived.OpenShut
import Derived.ShutString
import Derived.SizedLaws
import Derived.Stop.Joined
import Derived.Deep.Slices
import Derived.Deep.Strs
import Derived.Lib.SmallJoins
import Derived.SevenTiedAt
import Derived.Lib.LaidU8
namespace Go.Proofs.YtnebjdjebnphnaaDoor
set_option maxRecDepth 8000
open Go.ChangeShapes Go.WideShapes Go.ChangeAt Go.RowKit

theorem own : ownKnob Tryd.prog.godebug = none := by kernel_rfl
theorem gNames : Tryd.prog.globalNamed "intermede/codeset.names" = some 0 := by kernel_rfl
theorem tNames : (Tryd.prog.globals[0]?).map (·.type) = some 57 := by kernel_rfl
theorem cells9 : Tryd.prog.cellsOf 9 = 1 := by kernel_rfl
theorem cellsOf3 : Tryd.prog.cellsOf 3 = 1 := by kernel_rfl
theorem cells27 : Tryd.prog.cellsOf 27 = 1 := by kernel_rfl
theorem cells36 : Tryd.prog.cellsOf 36 = 2 := by kernel_rfl
theorem extra8 : U8Extra Tryd.prog Tryd.lays260_ren := by
  constructor <;> kernel_rfl

abbrev laid3 : List (String × DataW Unit) := [("unicode/utf8.acceptRanges", Rows.laid_unicode_utf8_acceptRanges), ("intermede/codeset.names", Rows.laid_intermede_codeset_names), ("unicode/utf8.first", Rows.laid_unicode_utf8_first)]

theorem first_eq : Go.Pinned.utf8First = Lib.firstData := by kernel_rfl
theorem accept_eq : (Rows.laid_unicode_utf8_acceptRanges : DataW Unit) = Lib.acceptData := by kernel_rfl

/-- The table of names, off its reading. -/
theorem names_of {W : World} (h : Lib.VarReads Tryd.prog W "intermede/codeset.names" Rows.laid_intermede_codeset_names) : NamesAt W := by
  obtain ⟨g, t, cs, f, p, hg, ht, hv, hd⟩ := h
  obtain rfl := Option.some.inj (gNames.symm.trans hg)
  obtain rfl := Option.some.inj (tNames.symm.trans ht)
  obtain ⟨xs, m1, rfl, hx1, hlen, hn, hel⟩ := DataW.trod_array Tryd.underlying57 hd
  simp only [Prod.mk.injEq, Rows.laid_intermede_codeset_names, DataW.agg.injEq] at hx1
  have hL := hx1.1.symm
  have key : ∀ k (b : List UInt8), k < 6 → (xs.map (·.1))[k]? = some (.lit (.string b)) → W.cell? ⟨0, k, none⟩ = some (.string ⟨b.toArray⟩) := fun k b hk hD => by
    have h := hel k hk
    rw [List.getElem?_map] at hD
    obtain ⟨y, hy, hyD⟩ := Option.map_eq_some_iff.1 hD
    rw [hy, cells9] at h
    obtain ⟨s, e1, e2, _⟩ := DataW.trod_string Tryd.underlying9 h
    have e2 := congrArg Prod.fst e2
    rw [hyD] at e2
    simp only [DataW.lit.injEq, Lit.string.injEq] at e2
    have hc := World.var?_cell gNames hv k
    rw [← Array.getElem?_toList] at hc
    have e3 := congrArg (·[0]?) e1
    simp only [Nat.mul_one, List.getElem?_take_of_lt (Nat.zero_lt_one), List.getElem?_drop, Nat.add_zero] at e3
    rw [hc, e3, e2]
    rfl
  have c0 := key 0 [] (by decide) (by rw [hL]; rfl)
  have c1 := key 1 [97, 115, 99, 105, 105] (by decide) (by rw [hL]; rfl)
  have c2 := key 2 [108, 97, 116, 105, 110] (by decide) (by rw [hL]; rfl)
  have c3 := key 3 [117, 116, 102, 56] (by decide) (by rw [hL]; rfl)
  have c4 := key 4 [117, 116, 102, 49, 54] (by decide) (by rw [hL]; rfl)
  have c5 := key 5 [103, 114, 101, 101, 107] (by decide) (by rw [hL]; rfl)
  refine ⟨World.block_lt_of_cell? _ _ c0, fun k hk => ?_⟩
  have hh : k = 0 ∨ k = 1 ∨ k = 2 ∨ k = 3 ∨ k = 4 ∨ k = 5 := by omega
  rcases hh with rfl | rfl | rfl | rfl | rfl | rfl
  · exact c0
  · exact c1
  · exact c2
  · exact c3
  · exact c4
  · exact c5

/-- What the laid variables give the walks. -/
theorem env_of_laid {W : World} (h : laidMetH Tryd.prog laid3 W) (hs : W.ShapedOpen Tryd.prog) : Env W := by
  rw [MakeChecks.laidMetH_plain _ _ _ (by kernel_rfl)] at h
  have h1 := Lib.laidMet.reads h (n := "intermede/codeset.names") (d := Rows.laid_intermede_codeset_names) (by simp [laid3])
  have h2 := Lib.laidMet.reads h (n := "unicode/utf8.first") (d := Rows.laid_unicode_utf8_first) (by simp [laid3])
  have h3 := Lib.laidMet.reads h (n := "unicode/utf8.acceptRanges") (d := Rows.laid_unicode_utf8_acceptRanges) (by simp [laid3])
  rw [accept_eq] at h3
  unfold Rows.laid_unicode_utf8_first at h2
  rw [first_eq] at h2
  have hl : ∃ m, W.cell? ⟨1, 0, none⟩ = some (.int .i64 m) := cell_of_shapedOpen_int (zero := #[.int .i64 0]) (g := 1) (t := 3) hs (of_decide_eq_true (by kernel_rfl)) (by kernel_rfl) rfl (by kernel_rfl) (by kernel_rfl) Tryd.underlying3
  obtain ⟨m, hm⟩ := hl
  exact ⟨names_of h1, ⟨World.block_lt_of_cell? _ _ hm, m, hm⟩, utf8Tabs_of_reads Tryd.lays260 extra8 h2 h3⟩

/-- The plain wrap, with the laid variables and the world's shape. -/
theorem handed_and_shaped {H : Type} {enc : TypeId × Value → H} {a : Assume} {C : Checked} {os : Os} {f : FuncId} {fn : Func} {s : ChangeSpec} {conds : List PathCond} {apart fresh handsOn again : Bool} {X : World → Array Value → Prop}
    (hX : ∀ (w w' : World) (args : Array Value), w.heap = w'.heap → X w args → X w' args)
    (own : ownKnob C.prog.godebug = none) (started : os.Started) (noInit : C.prog.inits.idxOf? f = none) (hfn : C.prog.funcs[f]? = some fn)
    (witness : ∃ (w : World) (tape : Tape) (i : Input), w.os = os ∧ (w.forCall tape i).Shaped C.prog ∧ i.vars = [] ∧ Input.okWide C.prog (w.forCall tape i) .any w.heap.size f i ∧
      ((s.pre enc C.prog fn conds apart (w.forCall tape i).memory i.args ∧ X (w.forCall tape i).memory i.args) ∧ sizedMet enc C.prog fn (OpenSpec.ofChange s) apart (w.forCall tape i).memory i.args) ∧ a.holds C.prog (lone (Frame.enter C.prog f i.args .normal) [] (w.forCall tape i)))
    (contract : ∀ (W : World) (base : Nat) (args : Array Value) (ds gs : List (DataW H)) (before : List MemPlace),
      (∀ (j : Nat) t v, fn.params[j]? = some t → args[j]? = some v → Value.okWide C.prog W .any base t v) →
      DataW.Whole enc C.prog fn.params.toList s.vars apart W args.toList ds gs before →
      X W args → W.ShapedOpen C.prog →
      Calls C.prog f args W fun e W' => ∃ v, e = .returned v ∧ s.post enc C.prog fn apart fresh handsOn again W args v W') :
    ReturnsInHanded a C os f .any (fun w args => (s.pre enc C.prog fn conds apart w args ∧ X w args) ∧ sizedMet enc C.prog fn (OpenSpec.ofChange s) apart w args) (s.post enc C.prog fn apart fresh handsOn again) := by
  refine returnsInHanded_of_calls own started noInit witness ?_
  intro w tape i _ hsh _ hok hpre hholds
  obtain ⟨_, _, _, fn', hfn', _, _, _, _, hval⟩ := hok
  have e : fn' = fn := Option.some.inj (hfn'.symm.trans hfn)
  subst e
  obtain ⟨⟨⟨ds, gs, before, hw, hc⟩, hx⟩, hz⟩ := hpre
  have hw' := DataW.Whole.of_heap (w' := w.forCall tape i) (by rfl) hw
  refine (contract (w.forCall tape i) w.heap.size i.args ds gs before hval hw' (hX _ _ _ (by rfl) hx) hsh).mono fun e W' ⟨v, he, hp⟩ => ?_
  subst he
  exact ChangeSpec.post_blind hp

end Go.Proofs.YtnebjdjebnphnaaDoor
