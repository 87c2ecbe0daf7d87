/-
  PROVED HERE: the law CdrBack of the translated program returns true for every order, every place and all acts, with no condition; of the memory that there was nothing changes.
-/
import Derived.Test.YtdklmeamhcgohaaBg
import Derived.SizedLaws
import Derived.WalkKit
import Derived.ProofKit
import Derived.OpenShut
import Derived.ShutString
namespace Go.Proofs.Ytdklmeamhcgohaa.cdrBackWhole
open Go.ChangeShapes Go.WideShapes Go.ChangeAt Go.RowKit

theorem own : ownKnob Try.prog.godebug = none := by kernel_rfl

theorem open_actN {H : Type} {enc : TypeId × Value → H} {W : World} {sp : Nat → Bool} {n : Nat} {cs : List Value} {x : DataW H × List MemPlace} (h : DataW.trod enc Try.prog W 0 sp true n 30 cs = some x) :
    ∃ y : ActD, cs = [.int .i64 y.k, .int .i64 y.n, .int .i64 y.m, .string y.s] ∧ x.1 = .agg [.lit (.int .i64 y.k), .lit (.int .i64 y.n), .lit (.int .i64 y.m), .lit (.string y.s.data.toList)] ∧ -9223372036854775808 ≤ y.n ∧ y.n ≤ 9223372036854775807 := by
  obtain ⟨y0, y1, y2, y3, m, rfl, hl, h0, h1, h2, h3⟩ := Go.Joins.trod_struct4 Try.underlying30 h
  rw [Try.cells30] at hl
  match cs, hl with
  | [v0, v1, v2, v3], _ =>
    simp [Try.cells3] at h0 h1 h2
    simp [Try.cells9] at h3
    obtain ⟨k, e0, rfl, _⟩ := DataW.trod_int Try.underlying3 h0
    obtain ⟨nn, e1, rfl, wf⟩ := DataW.trod_int Try.underlying3 h1
    obtain ⟨mm, e2, rfl, _⟩ := DataW.trod_int Try.underlying3 h2
    obtain ⟨s, e3, rfl, _⟩ := DataW.trod_string Try.underlying9 h3
    simp at e0 e1 e2 e3
    subst e0 e1 e2 e3
    have hw : (decide (IntKind.i64.min ≤ nn) && decide (nn ≤ IntKind.i64.max)) = true := wf
    simp only [Bool.and_eq_true, decide_eq_true_eq] at hw
    have m1 : IntKind.i64.min = -9223372036854775808 := by decide
    have m2 : IntKind.i64.max = 9223372036854775807 := by decide
    rw [m1, m2] at hw
    exact ⟨⟨k, nn, mm, s⟩, rfl, rfl, hw.1, hw.2⟩

theorem weights_all {H : Type} {P : Program} {e : TypeId} {n : Nat} {d : DataW H} : ∀ {l : List (DataW H)}, d ∈ l → n ∈ d.weights P e → n ∈ DataW.weightsAll P e l
  | [], h, _ => by cases h
  | x :: r, h, hn => by
    simp only [DataW.weightsAll, List.mem_append]
    rcases List.mem_cons.1 h with rfl | h
    · exact .inl hn
    · exact .inr (weights_all h hn)

theorem weights_act {H : Type} (k n m : Int) (s : List UInt8) : s.length ∈ DataW.weights Try.prog 30 (DataW.agg (H := H) [.lit (.int .i64 k), .lit (.int .i64 n), .lit (.int .i64 m), .lit (.string s)]) := by
  simp [DataW.weights, DataW.weightsEach, Try.underlying30]

set_option maxRecDepth 100000 in
theorem actsArgN {H : Type} {enc : TypeId × Value → H} (a0 : Option Addr) (len cap : Nat) (W : World) (d : DataW H) (p : List MemPlace)
    (h : DataW.Trod enc Try.prog W 0 (fun _ => true) true 22 (.slice a0 len cap) d p) (hk : ∀ n ∈ DataW.weights Try.prog 22 d, n ≤ reachBytes) :
    len = 0 ∨ ∃ blk off l, a0 = some ⟨blk, off, none⟩ ∧ len = l.length ∧ ActsAt W blk off l ∧ blk < W.heap.size ∧ l.length ≤ maxLen ∧ (∀ i (h : i < l.length), l[i].s.size ≤ 140737488351232) ∧ (∀ i (h : i < l.length), -9223372036854775808 ≤ l[i].n ∧ l[i].n ≤ 9223372036854775807) := by
  obtain ⟨fuel, hf⟩ := h
  rcases Go.Deep.open_slice Try.underlying22 hf with ⟨hcs, _⟩ | ⟨a, len', cap', m, n, D, Pl, hcs, hbase, hlc, hcm, hm, hx, hel⟩
  · have e : Value.slice a0 len cap = .slice none 0 0 := by simpa [Value.cells] using hcs
    left
    injection e
  · have e : Value.slice a0 len cap = .slice (some a) len' cap' := by simpa [Value.cells] using hcs
    injection e with e1 e2 e3
    subst e1 e2 e3
    simp only [if_true] at hm
    by_cases h0 : len = 0
    · exact .inl h0
    · right
      have hd : d = .slice ((List.range len).map D) ((List.range (m - len)).map fun j => D (len + j)) := (Prod.mk.inj hx).1
      have each : ∀ i, i < len → ∃ y : ActD, (D i = .agg [.lit (.int .i64 y.k), .lit (.int .i64 y.n), .lit (.int .i64 y.m), .lit (.string y.s.data.toList)]) ∧
          W.cell? (a.add (i * 4)) = some (.int .i64 y.k) ∧ W.cell? (a.add (i * 4 + 1)) = some (.int .i64 y.n) ∧ W.cell? (a.add (i * 4 + 2)) = some (.int .i64 y.m) ∧ W.cell? (a.add (i * 4 + 3)) = some (.string y.s) ∧ -9223372036854775808 ≤ y.n ∧ y.n ≤ 9223372036854775807 := by
        intro i hi
        obtain ⟨cs', hc, ht⟩ := hel i (by omega)
        rw [Try.cells30] at hc
        obtain ⟨y, rfl, hy, hyn⟩ := open_actN ht
        obtain ⟨_, _, hcell⟩ := World.cells?_some hc
        have e0 := hcell 0 (by omega)
        have e1 := hcell 1 (by omega)
        have e2 := hcell 2 (by omega)
        have e3 := hcell 3 (by omega)
        rw [Go.Deep.add_add] at e0 e1 e2 e3
        exact ⟨y, hy, by simpa using e0, by simpa using e1, by simpa using e2, by simpa using e3, hyn⟩
      obtain ⟨f, hfy⟩ := Go.Deep.choose_lt each
      have hspot : a.spot = none := by
        have h1 := (hfy 0 (by omega)).2.1
        have h2 : a.add (0 * 4) = a := by unfold Addr.add; simp
        rw [h2] at h1
        unfold World.cell? at h1
        split at h1
        · split at h1
          · cases h1
          · rename_i hs
            simpa using hs
        · cases h1
      obtain ⟨blk, off, spot⟩ := a
      simp only at hspot
      subst hspot
      have hadd : ∀ j, (⟨blk, off, none⟩ : Addr).add j = ⟨blk, off + j, none⟩ := fun j => by unfold Addr.add; split <;> simp_all
      have hlb : blk < W.heap.size := by
        have h1 := (hfy 0 (by omega)).2.1
        exact World.block_lt_of_cell? W _ h1
      have hln : ((List.range len).map f).length = len := by simp
      have hacts : ActsAt W blk off ((List.range len).map f) := by
        intro i hi
        rw [hln] at hi
        obtain ⟨_, g0, g1, g2, g3, _⟩ := hfy i hi
        rw [hadd] at g0 g1 g2 g3
        simp only [List.getElem_map, List.getElem_range]
        exact ⟨g0, by simpa [Nat.add_assoc] using g1, by simpa [Nat.add_assoc] using g2, by simpa [Nat.add_assoc] using g3⟩
      have hsz : ∀ i (h : i < ((List.range len).map f).length), ((List.range len).map f)[i].s.size ≤ 140737488351232 := by
        intro i hi
        rw [hln] at hi
        simp only [List.getElem_map, List.getElem_range]
        have h1 : (f i).s.data.toList.length ∈ DataW.weights Try.prog 30 (D i) := by
          rw [(hfy i hi).1]
          exact weights_act _ _ _ _
        have h2 : (f i).s.data.toList.length ∈ DataW.weights Try.prog 22 d := by
          rw [hd]
          simp only [DataW.weights, Try.underlying22]
          exact List.mem_cons_of_mem _ (List.mem_append_left _ (weights_all (List.mem_map_of_mem (List.mem_range.2 hi)) h1))
        have h3 := hk _ h2
        have h4 : reachBytes = 140737488351232 := by decide
        have h5 : (f i).s.data.toList.length = (f i).s.size := rfl
        omega
      exact ⟨blk, off, (List.range len).map f, rfl, hln.symm, hacts, hlb, by rw [hln]; omega, hsz, fun i hi => by rw [hln] at hi; simp only [List.getElem_map, List.getElem_range]; exact (hfy i hi).2.2.2.2.2⟩

set_option maxRecDepth 100000 in
theorem lifted (os : Os) (started : os.Started) (H : Type) (enc : TypeId × Value → H) :
    ReturnsInHanded {} Try.checked os 5 .any (Rows.cdrBackSpec.pre6 enc Try.prog Try.f5 Rows.cdrBackRow.domain false) (Rows.cdrBackSpec.post enc Try.prog Try.f5 false true false false) := by
  refine returnsInHanded_of_change_sized (C := Try.checked) own started (by kernel_rfl) Try.func5
    (ChangeSpec.witness6 (enc := enc) (C := Try.checked) false ⟨#[], #[.bool false, .int .i64 0, .slice none 0 0], []⟩ 8 (by kernel_rfl) (by kernel_rfl) (by kernel_rfl) (by kernel_rfl)) ?_
  intro W base args ds gs before hval0 hW hcnd hsz0 _
  have hval : ∀ (j : Nat) t v, Try.f5.params[j]? = some t → args[j]? = some v → Value.okWide Try.prog W .any base t v := hval0
  have hsz : (DataW.weightsEach Try.prog (Try.f5.params.toList ++ Rows.cdrBackSpec.plain.varTypes Try.prog) (ds ++ gs)).all (· ≤ reachBytes) = true := hsz0
  have hW' := hW
  obtain ⟨p, q, hA0, hV, rfl, hfz, hnd⟩ := hW
  have hA : DataW.TrodAll enc Try.prog W 0 (fun _ => true) true Try.f5.params.toList args.toList ds p := hA0
  rw [Try.params5] at hA hval hsz
  obtain ⟨v0, vs0, d0, ds0, p0, q0, hargs, rfl, rfl, h0, r0⟩ := trodAll_cons hA
  obtain ⟨v1, vs1, d1, ds1, p1, q1, rfl, rfl, rfl, h1, r1⟩ := trodAll_cons r0
  obtain ⟨v2, vs2, d2, ds2, p2, q2, rfl, rfl, rfl, h2, r2⟩ := trodAll_cons r1
  obtain ⟨rfl, rfl, rfl⟩ := trodAll_nil r2
  obtain rfl : args = #[v0, v1, v2] := by cases args; simp_all
  obtain ⟨rfl, rfl⟩ := trodVars_none hV
  obtain ⟨b0, rfl, rfl, rfl⟩ := open_bool Try.underlying4 (hval 0 4 v0 rfl rfl) h0
  obtain ⟨a1, rfl, rfl, rfl, w1⟩ := open_int Try.underlying3 (hval 1 3 v1 rfl rfl) h1
  obtain ⟨a0, len, cap, rfl⟩ := okWide_slice Try.underlying22 (hval 2 22 v2 rfl rfl)
  clear hA0 hval0 hA hsz0
  simp only [List.append_nil, List.nil_append] at hW'
  have hlt : ∀ x ∈ p2, x.block < W.heap.size := fun x hx => by simpa using hW'.lt x hx
  have hkb : ∀ n ∈ DataW.weights Try.prog 22 d2, n ≤ reachBytes := fun n hn => by
    have := List.all_eq_true.1 hsz _ (DataW.weights_mem_each (j := 2) (t := 22) rfl rfl n hn)
    simpa using this
  have hwalk : Calls Try.prog 5 #[.bool b0, .int .i64 a1, .slice a0 len cap] W fun e W' => e = .returned (.bool true) ∧ Below W.heap.size W W' := by
    rcases actsArgN a0 len cap W d2 p2 h2 hkb with rfl | ⟨blk, off, l, rfl, rfl, hacts, hlb, hln, hls, hns⟩
    · exact walk5_empty b0 a1 a0 cap W
    · exact walk5_wide b0 a1 blk off cap l W hacts hlb hln hls hns
  refine hwalk.mono fun e W' ⟨he, hg⟩ => ?_
  subst he
  exact ⟨_, rfl, _, _, _, [], _, [], hW', trodAll_cons_mk (shut_bool Try.underlying4 _) trodAll_mk0, trodAll_cons_mk (shut_bool Try.underlying4 _) (trodAll_cons_mk (shut_int Try.underlying3 w1) (trodAll_cons_mk (Below.trod (by kernel_rfl) (by kernel_rfl) (of_decide_eq_true (by kernel_rfl)) h2 hg hlt) trodAll_mk0)), rfl, hg.frame _, fun h => by cases h⟩

theorem over : Rows.cdrBackRow.holds Try.pinned (OpenSpec.ofChange Rows.cdrBackSpec) :=
  OpenClaim.holds_of_wide 5 Try.f5 rfl rfl rfl rfl rfl rfl rfl ⟨rfl, rfl, rfl, rfl, rfl⟩ rfl rfl rfl rfl rfl (by kernel_rfl) Try.func5 (by kernel_rfl)
    (of_decide_eq_true (by kernel_rfl)) (by unfold Func.isWrapper; first | (rw [if_pos (by decide +kernel)]; kernel_rfl) | (rw [if_neg (by decide +kernel)]; exact ⟨rfl, rfl⟩))
    (fun os started H enc _ => lifted os started H enc)

/-- THE STATEMENT -/
theorem proved : Rows.CdrBackSaid :=
  over
#print axioms proved
end Go.Proofs.Ytdklmeamhcgohaa.cdrBackWhole
