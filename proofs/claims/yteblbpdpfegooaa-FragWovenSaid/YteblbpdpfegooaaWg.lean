/- PROVED HERE: the law FragWoven of the translated program returns true for all bodies, sizes and turns, with no condition; of the memory that there was nothing changes. -/
import Derived.Test.YteblbpdpfegooaaWe
import Derived.Test.YteblbpdpfegooaaJt
namespace Go.Proofs.Yteblbpdpfegooaa
open Go.ChangeShapes Go.WideShapes Go.ChangeAt Go.RowKit

theorem under47' : Try.prog.underlying 47 = some (.slice 9) := by kernel_rfl

/-- Texts that came in. -/
theorem texts_in {H : Type} {enc : TypeId × Value → H} {W : World} {fuel : Nat} {a0 : Option Addr} {len cap : Nat} {x : DataW H × List MemPlace} (h : DataW.trod enc Try.prog W 0 (fun _ => true) true fuel 47 [.slice a0 len cap] = some x) :
    ∃ ts : List ByteArray, ts.length = len ∧ TxRow W a0 ts ∧ ts.length ≤ 9223372036854775807 ∧ ∀ N, (∀ n ∈ DataW.weights Try.prog 47 x.1, n ≤ N) → ∀ p ∈ ts, p.size ≤ N := by
  rcases Go.Deep.open_slice1 under47' cells9 h with ⟨hcs, _⟩ | ⟨a, len', cap', m, n, V, D, Pl, hcs, hbase, hlc, hcm, hm, hx, hel⟩
  · simp only [List.cons.injEq, and_true, Value.slice.injEq] at hcs
    obtain ⟨rfl, rfl, rfl⟩ := hcs
    exact ⟨[], rfl, .inl rfl, Nat.zero_le _, fun _ _ p hp => by cases hp⟩
  · simp only [List.cons.injEq, and_true, Value.slice.injEq] at hcs
    obtain ⟨rfl, rfl, rfl⟩ := hcs
    have hmax : maxLen ≤ 9223372036854775807 := by decide
    simp only [if_true] at hm
    by_cases h0 : len = 0
    · subst h0
      exact ⟨[], rfl, .inl rfl, Nat.zero_le _, fun _ _ p hp => by cases hp⟩
    · have each : ∀ i, i < len → ∃ t : ByteArray, W.cell? (a.add i) = some (.string t) ∧ D i = .lit (.string t.data.toList) := by
        intro i hi
        obtain ⟨hc, ht⟩ := hel i (by omega)
        obtain ⟨t, e0, e1, _⟩ := DataW.trod_string Try.underlying9 ht
        simp only [List.cons.injEq, and_true] at e0
        exact ⟨t, by rw [hc, e0], congrArg Prod.fst e1⟩
      obtain ⟨f, hfy⟩ := Go.Deep.choose_lt each
      have hspot : a.spot = none := by
        have h1 := (hfy 0 (by omega)).1
        have h2 : a.add 0 = a := by unfold Addr.add; simp
        rw [h2] at h1
        exact spot_none h1
      obtain ⟨blk, off, spot⟩ := a
      simp only at hspot
      subst hspot
      have hlb : blk < W.heap.size := World.block_lt_of_cell? W _ (hfy 0 (by omega)).1
      refine ⟨(List.range len).map f, by simp, .inr ⟨blk, off, rfl, hlb, fun i hi => ?_⟩, by simp only [List.length_map, List.length_range]; omega, fun N hN t ht => ?_⟩
      · have hi' : i < len := by simpa using hi
        have g0 := (hfy i hi').1
        rw [add_none] at g0
        simpa using g0
      · obtain ⟨i, hi, rfl⟩ := List.mem_map.1 ht
        have hi' : i < len := by simpa using hi
        have h1 : (f i).data.toList.length ∈ DataW.weights Try.prog 9 (D i) := by
          rw [(hfy i hi').2]
          simp [DataW.weights]
        have h2 : (f i).data.toList.length ∈ DataW.weights Try.prog 47 x.1 := by
          rw [hx]
          simp only [DataW.weights, under47']
          exact List.mem_cons_of_mem _ (List.mem_append_left _ (weights_all (List.mem_map_of_mem hi) h1))
        exact hN _ h2

namespace fragWoven
set_option maxRecDepth 100000 in
theorem lifted (os : Os) (started : os.Started) (H : Type) (enc : TypeId × Value → H) :
    ReturnsInHanded {} Try.checked os 5 .any (Rows.fragWovenSpec.pre6 enc Try.prog Try.f5 Rows.fragWovenRow.domain false) (Rows.fragWovenSpec.post enc Try.prog Try.f5 false true false false) := by
  refine returnsInHanded_of_change_sized (C := Try.checked) own started (by kernel_rfl) Try.func5
    (ChangeSpec.witness6 (enc := enc) (C := Try.checked) false ⟨#[], #[.slice none 0 0, .slice none 0 0, .slice none 0 0], []⟩ 8 (by kernel_rfl) (by kernel_rfl) (by kernel_rfl) (by kernel_rfl)) ?_
  intro W base args ds gs before hval0 hW hcnd hsz0 _
  have hval : ∀ (j : Nat) t v, Try.f5.params[j]? = some t → args[j]? = some v → Value.okWide Try.prog W .any base t v := hval0
  have hW' := hW
  obtain ⟨p, q, hA0, hV, rfl, hfz, hnd⟩ := hW
  have hA : DataW.TrodAll enc Try.prog W 0 (fun _ => true) true Try.f5.params.toList args.toList ds p := hA0
  have hsz := hsz0
  rw [Try.params5] at hA hval hsz
  obtain ⟨v0, vs0, d0, ds0, p0, q0, hargs, rfl, rfl, h0, r0⟩ := trodAll_cons hA
  obtain ⟨v1, vs1, d1, ds1, p1, q1, rfl, rfl, rfl, h1, r1⟩ := trodAll_cons r0
  obtain ⟨v2, vs2, d2, ds2, p2, q2, rfl, rfl, rfl, h2, r2⟩ := trodAll_cons r1
  obtain ⟨rfl, rfl, rfl⟩ := trodAll_nil r2
  obtain rfl : args = #[v0, v1, v2] := by cases args; simp_all
  obtain ⟨rfl, rfl⟩ := trodVars_none hV
  obtain ⟨a0, len0, cap0, rfl⟩ := okWide_slice under47' (hval 0 47 v0 rfl rfl)
  obtain ⟨a1, len1, cap1, rfl⟩ := okWide_slice Try.underlying41 (hval 1 41 v1 rfl rfl)
  obtain ⟨a2, len2, cap2, rfl⟩ := okWide_slice Try.underlying41 (hval 2 41 v2 rfl rfl)
  clear hA0 hval0 hA hsz0
  simp only [List.append_nil] at hW'
  have hlt : ∀ x ∈ p0 ++ (p1 ++ p2), x.block < W.heap.size := fun x hx => by simpa using hW'.lt x (by simpa using hx)
  have hkb : ∀ n ∈ DataW.weights Try.prog 47 d0, n ≤ reachBytes := fun n hn => by
    have := List.all_eq_true.1 hsz _ (DataW.weights_mem_each (j := 0) (t := 47) rfl rfl n hn)
    simpa using this
  obtain ⟨bs, rfl, hrow0, hl0, hbd⟩ := texts_in (show DataW.trod enc Try.prog W 0 (fun _ => true) true h0.choose 47 [.slice a0 len0 cap0] = some (d0, p0) from h0.choose_spec)
  obtain ⟨ss, rfl, hrow1, hl1, hr1⟩ := ints_in (show DataW.trod enc Try.prog W 0 (fun _ => true) true h1.choose 41 [.slice a1 len1 cap1] = some (d1, p1) from h1.choose_spec)
  obtain ⟨ts, rfl, hrow2, hl2, hr2⟩ := ints_in (show DataW.trod enc Try.prog W 0 (fun _ => true) true h2.choose 41 [.slice a2 len2 cap2] = some (d2, p2) from h2.choose_spec)
  have hb9 := hbd reachBytes hkb
  have hr9 : reachBytes ≤ 9223372036854775807 := by decide
  refine (wovenLaw_any a0 a1 a2 cap0 cap1 cap2 bs ss ts W hrow0 hrow1 hrow2 hl0 hl1 hl2 (fun b hb => Nat.le_trans (hb9 b hb) hr9) hr1 (fun t ht => (hr2 t ht).2)).mono fun e W' ⟨he, hg⟩ => ?_
  subst he
  exact ⟨_, rfl, _, _, _, [], _, [], hW', trodAll_cons_mk (shut_bool Try.underlying4 _) trodAll_mk0, trodAll_cons_mk (Below.trod (by kernel_rfl) (by kernel_rfl) (of_decide_eq_true (by kernel_rfl)) h0 hg (fun x hx => hlt x (List.mem_append_left _ hx))) (trodAll_cons_mk (Below.trod (by kernel_rfl) (by kernel_rfl) (of_decide_eq_true (by kernel_rfl)) h1 hg (fun x hx => hlt x (List.mem_append_right _ (List.mem_append_left _ hx)))) (trodAll_cons_mk (Below.trod (by kernel_rfl) (by kernel_rfl) (of_decide_eq_true (by kernel_rfl)) h2 hg (fun x hx => hlt x (List.mem_append_right _ (List.mem_append_right _ hx)))) trodAll_mk0)), rfl, hg.frame _, fun h => by cases h⟩

theorem over : Rows.fragWovenRow.holds Try.pinned (OpenSpec.ofChange Rows.fragWovenSpec) :=
  OpenClaim.holds_of_wide 5 Try.f5 rfl rfl rfl rfl rfl rfl rfl ⟨rfl, rfl, rfl, rfl, rfl⟩ rfl rfl rfl rfl rfl (by kernel_rfl) Try.func5 (by kernel_rfl)
    (of_decide_eq_true (by kernel_rfl)) (by unfold Func.isWrapper; first | (rw [if_pos (by decide +kernel)]; kernel_rfl) | (rw [if_neg (by decide +kernel)]; exact ⟨rfl, rfl⟩))
    (fun os started H enc _ => lifted os started H enc)

/-- THE STATEMENT -/
theorem proved : Rows.FragWovenSaid :=
  over
#print axioms proved
end fragWoven
end Go.Proofs.Yteblbpdpfegooaa
