/-
  PROVED HERE: the law CodesetChosen of the translated program returns true for every pair of codes, with no condition; of the memory that there was nothing changes. The table of the package codeset and the two tables of unicode/utf8 are what the program's text lays (the card ties them).
-/
import Derived.Test.YtnebjdjebnphnaaDoorHa
import Derived.Test.YtnebjdjebnphnaaDoorId
namespace Go.Proofs.YtnebjdjebnphnaaDoor
set_option maxRecDepth 8000
open Go.ChangeShapes Go.WideShapes Go.ChangeAt Go.RowKit

theorem spot_none {W : World} {a : Addr} {v : Value} (h : W.cell? a = some v) : a.spot = none := by
  unfold World.cell? at h
  split at h
  · split at h
    · cases h
    · rename_i hs
      simpa using hs
  · cases h

/-- Numbers that came in. -/
theorem ints_in {H : Type} {enc : TypeId × Value → H} {W : World} {fuel : Nat} {v : Value} {x : DataW H × List MemPlace} (h : DataW.trod enc Tryd.prog W 0 (fun _ => true) true fuel 27 [v] = some x) :
    ∃ (a0 : Option Addr) (cap : Nat) (ts : List Int), v = .slice a0 ts.length cap ∧ ts.length ≤ cap ∧ IntRow W a0 ts := by
  rcases Go.Deep.open_slice1 Tryd.underlying27 cellsOf3 h with ⟨hcs, _⟩ | ⟨a, len', cap', m, n, V, D, Pl, hcs, hbase, hlc, hcm, hm, hx, hel⟩
  · simp only [List.cons.injEq, and_true] at hcs
    exact ⟨none, 0, [], hcs, Nat.le_refl _, .inl rfl⟩
  · simp only [List.cons.injEq, and_true] at hcs
    simp only [if_true] at hm
    by_cases h0 : len' = 0
    · subst h0
      exact ⟨some a, cap', [], hcs, Nat.zero_le _, .inl rfl⟩
    · have each : ∀ i, i < len' → ∃ t : Int, W.cell? (a.add i) = some (.int .i64 t) := by
        intro i hi
        obtain ⟨hc, ht⟩ := hel i (by omega)
        obtain ⟨t, e0, _, _⟩ := DataW.trod_int Tryd.underlying3 ht
        simp only [List.cons.injEq, and_true] at e0
        exact ⟨t, by rw [hc, e0]⟩
      obtain ⟨f, hfy⟩ := Go.Deep.choose_lt each
      have hspot : a.spot = none := by
        have h1 := hfy 0 (by omega)
        have h2 : a.add 0 = a := by unfold Addr.add; simp
        rw [h2] at h1
        exact spot_none h1
      obtain ⟨blk, off, spot⟩ := a
      simp only at hspot
      subst hspot
      have hlb : blk < W.heap.size := World.block_lt_of_cell? W _ (hfy 0 (by omega))
      refine ⟨some ⟨blk, off, none⟩, cap', (List.range len').map f, by simpa using hcs, by simpa using hlc, .inr ⟨blk, off, rfl, hlb, fun i hi => ?_⟩⟩
      have hi' : i < len' := by simpa using hi
      have g0 := hfy i hi'
      rw [add_none] at g0
      simpa using g0

/-- Codes that came in. -/
theorem codes_in {H : Type} {enc : TypeId × Value → H} {W : World} {base : Nat} {v : Value} {d : DataW H} {p : List MemPlace} (hv : Value.okWide Tryd.prog W .any base 36 v) (h : DataW.Trod enc Tryd.prog W 0 (fun _ => true) true 36 v d p) :
    ∃ (n : Int) (a : Option Addr) (cap : Nat) (l : List Int), v = .agg #[.int .i64 n, .slice a l.length cap] ∧ l.length ≤ cap ∧ IntRow W a l := by
  obtain ⟨v0, v1, y0, y1, m, rfl, _, _, hy0, hy1⟩ := Go.Joins.open_agg2 Tryd.underlying36 (by kernel_rfl) cells36 hv h
  obtain ⟨n, e0, _⟩ := DataW.trod_int Tryd.underlying3 hy0
  simp only [List.cons.injEq, and_true] at e0
  obtain ⟨a, cap, l, rfl, hc, hr⟩ := ints_in hy1
  exact ⟨n, a, cap, l, by rw [e0], hc, hr⟩

theorem chosen_any (n m : Int) (a1 a2 : Option Addr) (c1 c2 : Nat) (l r : List Int) (w : World) (hE : Env w) (h1 : IntRow w a1 l) (h2 : IntRow w a2 r) (hc1 : l.length ≤ c1) (hc2 : r.length ≤ c2) :
    Calls Tryd.prog 4 #[.agg #[.int .i64 n, .slice a1 l.length c1], .agg #[.int .i64 m, .slice a2 r.length c2]] w fun e w' => e = .returned (.bool true) ∧ Below w.heap.size w w' := by
  by_cases g1 : 50 < l.length
  · exact chosen_long1 n m a1 a2 _ _ c1 c2 w hE g1
  by_cases g2 : 50 < r.length
  · exact chosen_long2 n m a1 a2 _ _ c1 c2 w hE g1 g2
  by_cases he : chE n l m r = 0
  · exact chosen_c n m a1 a2 c1 c2 l r w hE h1 h2 hc1 hc2 (by omega) (by omega) (chosen_ok he).1 he
  cases hv : validC n l with
  | false => exact chosen_a n m a1 a2 c1 c2 l r w hE h1 h2 hc1 hc2 (by omega) (by omega) hv he
  | true => exact chosen_b n m a1 a2 c1 c2 l r w hE h1 h2 hc1 hc2 (by omega) (by omega) hv he

namespace codesetChosen

set_option maxRecDepth 100000 in
theorem lifted (os : Os) (started : os.Started) (H : Type) (enc : TypeId × Value → H) :
    ReturnsInHanded {} Tryd.checked os 4 .any (fun w args => (Rows.codesetChosenSpec.pre enc Tryd.prog Tryd.f4 [] false w args ∧ laidMetH Tryd.prog laid3 w) ∧ sizedMet enc Tryd.prog Tryd.f4 (OpenSpec.ofChange Rows.codesetChosenSpec) false w args)
      (Rows.codesetChosenSpec.post enc Tryd.prog Tryd.f4 false true false false) := by
  refine handed_and_shaped (C := Tryd.checked) (X := fun w _ => laidMetH Tryd.prog laid3 w) (fun _ _ _ hh h => h.of_heap hh) own started (by kernel_rfl) Tryd.func4
    (ChangeSpec.witness_shaped (enc := enc) (C := Tryd.checked) (os := os) (X := fun w _ => laidMetH Tryd.prog laid3 w) false (World.laidAll Tryd.prog os laid3) #[.agg #[.int .i64 0, .slice none 0 0], .agg #[.int .i64 0, .slice none 0 0]] 8 (World.laidAll_os _ _ _) (World.shaped_of_ZipB (by kernel_rfl) (by kernel_rfl)) (by kernel_rfl) (by kernel_rfl) (by kernel_rfl) (by rw [MakeChecks.laidMetH_plain _ _ _ (by kernel_rfl)]; exact laidMet_laidAll _ (by kernel_rfl) (by kernel_rfl))) ?_
  intro W base args ds gs before hval0 hW hL hsh
  have hval : ∀ (j : Nat) t v, Tryd.f4.params[j]? = some t → args[j]? = some v → Value.okWide Tryd.prog W .any base t v := hval0
  have hW' := hW
  obtain ⟨p, q, hA0, hV, rfl, hfz, hnd⟩ := hW
  have hA : DataW.TrodAll enc Tryd.prog W 0 (fun _ => true) true Tryd.f4.params.toList args.toList ds p := hA0
  rw [Tryd.params4] at hA hval
  obtain ⟨v0, vs0, d0, ds0, p0, q0, hargs, rfl, rfl, h0, r0⟩ := trodAll_cons hA
  obtain ⟨v1, vs1, d1, ds1, p1, q1, rfl, rfl, rfl, h1, r1⟩ := trodAll_cons r0
  obtain ⟨rfl, rfl, rfl⟩ := trodAll_nil r1
  obtain rfl : args = #[v0, v1] := by cases args; simp_all
  obtain ⟨rfl, rfl⟩ := trodVars_none hV
  obtain ⟨n, a0, c0, l, rfl, hc0, hr0⟩ := codes_in (hval 0 36 v0 rfl rfl) h0
  obtain ⟨m, a1, c1, r, rfl, hc1, hr1⟩ := codes_in (hval 1 36 v1 rfl rfl) h1
  clear hA0 hval0 hA
  simp only [List.append_nil] at hW'
  have hlt : ∀ x ∈ p0 ++ p1, x.block < W.heap.size := fun x hx => by simpa using hW'.lt x (by simpa using hx)
  refine (chosen_any n m a0 a1 c0 c1 l r W (env_of_laid hL hsh) hr0 hr1 hc0 hc1).mono fun e W' ⟨he, hg⟩ => ?_
  subst he
  exact ⟨_, rfl, _, _, _, [], _, [], hW', trodAll_cons_mk (shut_bool Tryd.underlying4 _) trodAll_mk0, trodAll_cons_mk (Below.trod (by kernel_rfl) (by kernel_rfl) (of_decide_eq_true (by kernel_rfl)) h0 hg (fun x hx => hlt x (List.mem_append_left _ hx))) (trodAll_cons_mk (Below.trod (by kernel_rfl) (by kernel_rfl) (of_decide_eq_true (by kernel_rfl)) h1 hg (fun x hx => hlt x (List.mem_append_right _ hx))) trodAll_mk0), rfl, hg.frame _, fun h => by cases h⟩

theorem holds : Rows.CodesetChosenSaid :=
  OpenClaim.holds_of_wide 4 Tryd.f4 rfl rfl rfl rfl rfl rfl rfl ⟨rfl, rfl, rfl, rfl, rfl⟩ rfl rfl rfl rfl rfl (by kernel_rfl) Tryd.func4 (by kernel_rfl)
    (of_decide_eq_true (by kernel_rfl)) (by unfold Func.isWrapper; first | (rw [if_pos (by decide +kernel)]; kernel_rfl) | (rw [if_neg (by decide +kernel)]; exact ⟨rfl, rfl⟩))
    (fun os started H enc _ => lifted os started H enc)

/-- THE TIED CARD -/
theorem proved : Rows.CodesetChosenCardSaid :=
  Claim7.holds_tied_plain_at .later [] [.data, .data, .pinned] true (true, "912c024a1a328a49f89246782163aec339669893fdcce4d3280a2a1fdf3d7b17") false
    holds (fun _ h => by cases h) (by kernel_rfl) (fun _ h => by cases h) codesetChosen_row_tie rfl ⟨rfl, rfl⟩ (by kernel_rfl) rfl
    (fun f fn hf hfn => by
      obtain rfl : f = 4 := Option.some.inj ((show Tryd.prog.funcNamed "intermede/intermedelaw12.CodesetChosen" = some 4 by kernel_rfl).symm.trans hf) |>.symm
      obtain rfl : fn = Tryd.f4 := (Option.some.inj (Tryd.func4.symm.trans hfn)).symm
      exact ⟨by kernel_rfl, fun j t ht => by
        rw [Tryd.params4] at ht
        have hm : t ∈ [36, 36] := by simpa using Array.mem_of_getElem? ht
        have hall : ([36, 36].all fun u => !Tryd.prog.wantsStandIn u) = true := by kernel_rfl
        exact (show Tryd.prog.wantsStandIn t = false by simpa using List.all_eq_true.1 hall t hm)⟩)
    (by kernel_rfl)
#print axioms proved
end codesetChosen
end Go.Proofs.YtnebjdjebnphnaaDoor
