/-
  PROVED HERE: what an argument of acts is in memory: none, or acts at a place, each text of at most 2^47 - 4096 bytes.
-/
import Derived.Test.YtdklmeamhcgohaaRv
import Derived.SizedLaws
import Derived.WalkKit
import Derived.ProofKit
import Derived.OpenShut
import Derived.ShutString
namespace Go.Proofs.Ytdklmeamhcgohaa
open Go.ChangeShapes Go.WideShapes Go.ChangeAt Go.RowKit

theorem weights_all {H : Type} {P : Program} {e : TypeId} {n : Nat} {d : DataW H} : ∀ {l : List (DataW H)}, d ∈ l → n ∈ d.weights P e → n ∈ DataW.weightsAll P e l
  | [], h, _ => by cases h
  | x :: r, h, hn => by
    simp only [DataW.weightsAll, List.mem_append]
    rcases List.mem_cons.1 h with rfl | h
    · exact .inl hn
    · exact .inr (weights_all h hn)

theorem weights_act {H : Type} (k n m : Int) (s : List UInt8) : s.length ∈ DataW.weights Try.prog 30 (DataW.agg (H := H) [.lit (.int .i64 k), .lit (.int .i64 n), .lit (.int .i64 m), .lit (.string s)]) := by
  simp [DataW.weights, DataW.weightsEach, Try.underlying30]

set_option maxRecDepth 100000 in
theorem actsArg {H : Type} {enc : TypeId × Value → H} (a0 : Option Addr) (len cap : Nat) (W : World) (d : DataW H) (p : List MemPlace)
    (h : DataW.Trod enc Try.prog W 0 (fun _ => true) true 22 (.slice a0 len cap) d p) (hk : ∀ n ∈ DataW.weights Try.prog 22 d, n ≤ reachBytes) :
    len = 0 ∨ ∃ blk off l, a0 = some ⟨blk, off, none⟩ ∧ len = l.length ∧ ActsAt W blk off l ∧ blk < W.heap.size ∧ l.length ≤ maxLen ∧ (∀ i (h : i < l.length), l[i].s.size ≤ 140737488351232) := by
  obtain ⟨fuel, hf⟩ := h
  rcases Go.Deep.open_slice Try.underlying22 hf with ⟨hcs, _⟩ | ⟨a, len', cap', m, n, D, Pl, hcs, hbase, hlc, hcm, hm, hx, hel⟩
  · have e : Value.slice a0 len cap = .slice none 0 0 := by simpa [Value.cells] using hcs
    left
    injection e
  · have e : Value.slice a0 len cap = .slice (some a) len' cap' := by simpa [Value.cells] using hcs
    injection e with e1 e2 e3
    subst e1 e2 e3
    simp only [if_true] at hm
    by_cases h0 : len = 0
    · exact .inl h0
    · right
      have hd : d = .slice ((List.range len).map D) ((List.range (m - len)).map fun j => D (len + j)) := (Prod.mk.inj hx).1
      have each : ∀ i, i < len → ∃ y : ActD, (D i = .agg [.lit (.int .i64 y.k), .lit (.int .i64 y.n), .lit (.int .i64 y.m), .lit (.string y.s.data.toList)]) ∧
          W.cell? (a.add (i * 4)) = some (.int .i64 y.k) ∧ W.cell? (a.add (i * 4 + 1)) = some (.int .i64 y.n) ∧ W.cell? (a.add (i * 4 + 2)) = some (.int .i64 y.m) ∧ W.cell? (a.add (i * 4 + 3)) = some (.string y.s) := by
        intro i hi
        obtain ⟨cs', hc, ht⟩ := hel i (by omega)
        rw [Try.cells30] at hc
        obtain ⟨y, rfl, hy⟩ := open_act ht
        obtain ⟨_, _, hcell⟩ := World.cells?_some hc
        have e0 := hcell 0 (by omega)
        have e1 := hcell 1 (by omega)
        have e2 := hcell 2 (by omega)
        have e3 := hcell 3 (by omega)
        rw [Go.Deep.add_add] at e0 e1 e2 e3
        exact ⟨y, hy, by simpa using e0, by simpa using e1, by simpa using e2, by simpa using e3⟩
      obtain ⟨f, hfy⟩ := Go.Deep.choose_lt each
      have hspot : a.spot = none := by
        have h1 := (hfy 0 (by omega)).2.1
        have h2 : a.add (0 * 4) = a := by unfold Addr.add; simp
        rw [h2] at h1
        unfold World.cell? at h1
        split at h1
        · split at h1
          · cases h1
          · rename_i hs
            simpa using hs
        · cases h1
      obtain ⟨blk, off, spot⟩ := a
      simp only at hspot
      subst hspot
      have hadd : ∀ j, (⟨blk, off, none⟩ : Addr).add j = ⟨blk, off + j, none⟩ := fun j => by unfold Addr.add; split <;> simp_all
      have hlb : blk < W.heap.size := by
        have h1 := (hfy 0 (by omega)).2.1
        exact World.block_lt_of_cell? W _ h1
      have hln : ((List.range len).map f).length = len := by simp
      have hacts : ActsAt W blk off ((List.range len).map f) := by
        intro i hi
        rw [hln] at hi
        obtain ⟨_, g0, g1, g2, g3⟩ := hfy i hi
        rw [hadd] at g0 g1 g2 g3
        simp only [List.getElem_map, List.getElem_range]
        exact ⟨g0, by simpa [Nat.add_assoc] using g1, by simpa [Nat.add_assoc] using g2, by simpa [Nat.add_assoc] using g3⟩
      have hsz : ∀ i (h : i < ((List.range len).map f).length), ((List.range len).map f)[i].s.size ≤ 140737488351232 := by
        intro i hi
        rw [hln] at hi
        simp only [List.getElem_map, List.getElem_range]
        have h1 : (f i).s.data.toList.length ∈ DataW.weights Try.prog 30 (D i) := by
          rw [(hfy i hi).1]
          exact weights_act _ _ _ _
        have h2 : (f i).s.data.toList.length ∈ DataW.weights Try.prog 22 d := by
          rw [hd]
          simp only [DataW.weights, Try.underlying22]
          exact List.mem_cons_of_mem _ (List.mem_append_left _ (weights_all (List.mem_map_of_mem (List.mem_range.2 hi)) h1))
        have h3 := hk _ h2
        have h4 : reachBytes = 140737488351232 := by decide
        have h5 : (f i).s.data.toList.length = (f i).s.size := rfl
        omega
      exact ⟨blk, off, (List.range len).map f, rfl, hln.symm, hacts, hlb, by rw [hln]; omega, hsz⟩

set_option maxRecDepth 100000 in
set_option maxHeartbeats 4000000 in
theorem walk4_empty (s : ByteArray) (big : Bool) (at' : Int) (ao : Option Addr) (cap : Nat) (w : World) (hsz : s.size ≤ 140737488351232) :
    Calls Try.prog 4 #[.string s, .bool big, .int .i64 at', .slice ao 0 cap] w fun e w' => e = .returned (.bool true) ∧ Below w.heap.size w w' := by
  have LG := Lib.hid (light_empty ao cap w)
  by_cases h2000 : s.size ≤ 2000
  · have d0 : decide ((2000 : Int) < s.size) = false := by simp; omega
    clear hsz
    go_enter Try.func4, Try.ntmps4
    go_wp2_with (first | (go_at_call 9; refine LG.out.mono ?_; rintro e w1 ⟨rfl, hb1⟩; have B1 := Lib.hid hb1; clear hb1) | (go_at_call 21; refine (newReader_any _ _ _ _).mono ?_; rintro e w2 ⟨b1, rfl, hb2, hw2, hbe2⟩; have B2 := Lib.hid hbe2; clear hb2 hw2 hbe2) | (go_at_call 22; refine (rnewReader_any _ _ _ _).mono ?_; rintro e w3 ⟨b2, rfl, hb3, hw3, hbe3⟩; have B3 := Lib.hid hbe3; clear hb3 hw3 hbe3))
    go_loopw [35] (fun v wr => v = .int .i64 0 ∧ wr = w3) (fun _ _ => 0)
    case atStart => exact ⟨rfl, rfl⟩
    case round =>
      obtain ⟨rfl, rfl⟩ := hrel
      go_wp2_with (first | (go_at_call 31; refine (ctext_nil _).mono ?_; rintro e w4 ⟨rfl, hb4⟩; have B4 := Lib.hid hb4; clear hb4) | (go_at_call 32; refine (calign_nil _ _).mono ?_; rintro e w5 ⟨rfl, rfl⟩) | (go_at_call 29; refine (cbad_nil _).mono ?_; rintro e w6 ⟨rfl, rfl⟩) | (go_at_call 27; refine (cleft_nil _).mono ?_; rintro e w7 ⟨rfl, rfl⟩) | (go_at_call 10; refine (awake_any _).mono ?_; rintro e w9 ⟨rfl, hb9⟩; have B9 := Lib.hid hb9; clear hb9))
      go_ret
      have b2' := B1.out.trans (B2.out.mono B1.out.size)
      have b3' := b2'.trans (B3.out.mono b2'.size)
      have b4' := b3'.trans (B4.out.mono b3'.size)
      exact ⟨rfl, b4'.trans (B9.out.mono b4'.size)⟩
  · have d0 : decide ((2000 : Int) < s.size) = true := by simp; omega
    go_enter Try.func4, Try.ntmps4
    go_wp2_with (first | (go_at_call 9; refine LG.out.mono ?_; rintro e w1 ⟨rfl, hb1⟩; have B1 := Lib.hid hb1; clear hb1) | (go_at_call 10; refine (awake_any _).mono ?_; rintro e w2 ⟨rfl, hb2⟩; have B2 := Lib.hid hb2; clear hb2))
    go_ret
    exact ⟨rfl, B1.out.trans (B2.out.mono B1.out.size)⟩

end Go.Proofs.Ytdklmeamhcgohaa
