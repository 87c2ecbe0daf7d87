/-
  PROVED HERE: what Put of the reference's writer writes where the place is right and the number fits: what Put of package cdr does.
-/
import Derived.Test.YtdklmeamhcgohaaZd
namespace Go.Proofs.Ytdklmeamhcgohaa
open Go.RowKit

/-- What the statement of the reference's Put reads. -/
structure RPutS (b g cap L : Nat) (big : Bool) (a : Int) (W : World) : Prop where
  c0 : W.cell? ⟨b, 0, none⟩ = some (.bool big)
  c1 : W.cell? ⟨b, 1, none⟩ = some (.int .i64 a)
  c2 : W.cell? ⟨b, 2, none⟩ = some (.slice (some ⟨g, 0, none⟩) L cap)

/-- 'copy' of a string into a row, as one operation. -/
theorem wp_copy_row_string {P : Program} {o : Oper} {a : Act} {w : World} {K : Act → World → Prop} {Q : Exit → Act → World → Prop} (d x : Operand) (dT sT : TypeId) (hop : o.op = Op.call { callee := Callee.builtin Builtin.copy, args := #[d, x], argTypes := #[dT, sT] })
    (elem : TypeId) (hu : P.underlying dT = some (.slice elem)) (hz : (P.info? elem).map (·.size) = some 1)
    (g off dLen dCap : Nat) (hd : a.eval d = .slice (some ⟨g, off, none⟩) dLen dCap) (t : ByteArray) (hx : a.eval x = .string t) (hle : t.size ≤ dLen) (cur : Array Value) (ty : TypeId) (hg : w.heap[g]? = some (.cells cur ty (0, 0))) (hfit : off + t.size ≤ cur.size)
    (hK : K (a.put o.dst (goInt t.size)) (w.setRow g (cur.toList.take off ++ Lib.byteCells t.data.toList ++ cur.toList.drop (off + t.size)).toArray)) : Oper.wp P o a w K Q := by
  have hrun := Lib.run_copy_row_string (P := P) w dT sT o.type elem g off dLen dCap t cur ty hu hz hg hle hfit
  unfold Oper.wp
  simp only [execOp, hop, resolve, invoke, builtin, Sem.run_bind, Sem.run_pure, Result.andThen_ok, List.map_toArray, List.map_cons, List.map_nil, hd, hx, hrun]
  exact hK

theorem patch_cells (cur : List Value) (out l : List UInt8) (i : Nat) (h : cur.take out.length = bcells out) (hi : i + l.length ≤ out.length) :
    (cur.take i ++ bcells l ++ cur.drop (i + l.length)).take out.length = bcells (patch out i l) := by
  have hc : out.length ≤ cur.length := by
    have := congrArg List.length h
    simp [bcells] at this
    omega
  have h1 : cur.take i = (bcells out).take i := by rw [← h, List.take_take, Nat.min_eq_left (by omega)]
  have h2 : (cur.drop (i + l.length)).take (out.length - (i + l.length)) = (bcells out).drop (i + l.length) := by rw [← h, List.drop_take]
  have h3 : (cur.take i ++ bcells l).length = i + l.length := by simp [bcells]; omega
  rw [List.take_append, h3, h2, List.take_of_length_le (by rw [h3]; exact hi), h1]
  simp [patch, bcells, List.map_take, List.map_drop]

set_option maxRecDepth 100000 in
set_option maxHeartbeats 3000000 in
theorem rput_good (b : Nat) (big : Bool) (a place n : Int) (sv : Value) (out : List UInt8) (w : World) (h : RHolds w b big a sv out) (ha : 0 ≤ a) (ha2 : a ≤ 7) (hL : out.length ≤ 100000000) (hk : putP a place out.length = true) (hf : fitsN 4 n = true) :
    Calls Try.prog 56 #[.pointer (some ⟨b, 0, none⟩), .int .i64 place, .int .i64 n] w fun e w' => e = .returned (.int .i64 0) ∧ ∃ sv', RHolds w' b big a sv' (patch out (place - a).toNat (numB n big 4)) ∧ Wrote w w' b sv sv' := by
  obtain ⟨g, cap, cur, rfl, hgw, hncap, hcm, hcs, htk⟩ : ∃ g cap cur, sv = .slice (some ⟨g, 0, none⟩) out.length cap ∧ w.heap[g]? = some (.cells cur 5 (0, 0)) ∧ out.length ≤ cap ∧ cap ≤ maxLen ∧ cur.size = cap ∧ cur.toList.take out.length = bcells out := by
    rcases h.2.2 with ⟨_, h0⟩ | ⟨g, cap, cur, e, _, hg, hn, hcm, hcs, htk⟩
    · simp only [putP, Bool.and_eq_true, decide_eq_true_eq] at hk
      omega
    · exact ⟨g, cap, cur, e, hg, hn, hcm, by simpa using hcs, by simpa using htk⟩
  have hrl := h.2
  have NB := Lib.hid fun w => number91 n 4 big w (by omega) (by omega)
  have PL := Lib.hid (rplace_any b big a (some ⟨g, 0, none⟩) out.length cap w h.1 ha ha2 (by omega))
  simp only [putP, Bool.and_eq_true, decide_eq_true_eq] at hk
  obtain ⟨⟨q1, q2⟩, q3⟩ := hk
  have hp0 : 0 ≤ place := by omega
  have h4 : place.tmod 4 = 0 := by rw [Int.tmod_eq_emod_of_nonneg hp0]; exact q3
  have hn : ¬ n < -2147483648 ∧ ¬ (2147483648 : Int) ≤ n := by
    simp [fitsN] at hf
    omega
  obtain ⟨hn1, hn2⟩ := hn
  have g1 : ¬ place < a := by omega
  have g2 : ¬ a + out.length - 4 < place := by omega
  obtain ⟨i, hi⟩ : ∃ i : Nat, place - a = (i : Int) := ⟨(place - a).toNat, by omega⟩
  have hiL : i + 4 ≤ out.length := by omega
  have hi2 : (place - a).toNat = i := by omega
  rw [hi2]
  have HI := Lib.hid hi
  have HL := Lib.hid hiL
  have H := Lib.hid h
  have HG := Lib.hid hgw
  have HC := Lib.hid hcs
  have HT := Lib.hid htk
  have HM := Lib.hid hcm
  have c1 := h.1.c1
  clear hi hiL hf q3 hi2 hgw hcs htk h hrl hcm
  go_enter Try.func56, Try.ntmps56
  go_wp2_with (go_at_call 16; refine PL.out.mono ?_; rintro e w1 ⟨rfl, nq, rfl⟩)
  have hi := HI.out
  have hiL := HL.out
  have hic : (i : Int) < (cap : Int) := by omega
  have hwi : IntKind.i64.wrap (i : Int) = i := IntWalk.i64_in _ (by omega)
  have hi0 : ¬ ((i : Int) < 0) := by omega
  have hiLL : (i : Int) ≤ (out.length : Int) := by omega
  have hS : RPutS b g cap out.length big a (w.drewN nq).drew := ⟨H.out.1.c0, H.out.1.c1, H.out.1.c2⟩
  refine wp_region_held_drew (S := RPutS b g cap out.length big a) (by kernel_rfl) hS (fun _ => ?_)
  refine takeT (i := 0) (d := 35) (v := .pointer (some ⟨b, 0, none⟩)) rfl rfl (by kernel_rfl) (by kernel_rfl) (by kernel_rfl) (fun _ _ _ h => h) (by rfl) (by (rintro w ⟨p0, p1, p2⟩; go_simp)) hS ?_
  simp only [List.setIfInBounds_toArray, List.set_cons_zero, List.set_cons_succ]
  refine takeT (i := 1) (d := 36) (v := .pointer (some ⟨b, 0, none⟩)) rfl rfl (by kernel_rfl) (by kernel_rfl) (by kernel_rfl) (fun _ _ _ h => h) (by rfl) (by (rintro w ⟨p0, p1, p2⟩; go_simp)) hS ?_
  simp only [List.setIfInBounds_toArray, List.set_cons_zero, List.set_cons_succ]
  refine takeT (i := 2) (d := 37) (v := .pointer (some ⟨b, 2, none⟩)) rfl rfl (by kernel_rfl) (by kernel_rfl) (by kernel_rfl) (fun _ _ _ h => h) (by rfl) (by (rintro w ⟨p0, p1, p2⟩; go_simp)) hS ?_
  simp only [List.setIfInBounds_toArray, List.set_cons_zero, List.set_cons_succ]
  refine takeT (i := 3) (d := 38) (v := .slice (some ⟨g, 0, none⟩) out.length cap) rfl rfl (by kernel_rfl) (by kernel_rfl) (by kernel_rfl) (fun _ _ _ h => h) (by rfl) (by (rintro w ⟨p0, p1, p2⟩; go_simp)) hS ?_
  simp only [List.setIfInBounds_toArray, List.set_cons_zero, List.set_cons_succ]
  refine takeT (i := 4) (d := 39) (v := .int .i64 place) rfl rfl (by kernel_rfl) (by kernel_rfl) (by kernel_rfl) (fun _ _ _ h => h) (by rfl) (by (rintro w ⟨p0, p1, p2⟩; go_simp)) hS ?_
  simp only [List.setIfInBounds_toArray, List.set_cons_zero, List.set_cons_succ]
  refine takeT (i := 5) (d := 40) (v := .pointer (some ⟨b, 0, none⟩)) rfl rfl (by kernel_rfl) (by kernel_rfl) (by kernel_rfl) (fun _ _ _ h => h) (by rfl) (by (rintro w ⟨p0, p1, p2⟩; go_simp)) hS ?_
  simp only [List.setIfInBounds_toArray, List.set_cons_zero, List.set_cons_succ]
  refine takeT (i := 6) (d := 41) (v := .pointer (some ⟨b, 0, none⟩)) rfl rfl (by kernel_rfl) (by kernel_rfl) (by kernel_rfl) (fun _ _ _ h => h) (by rfl) (by (rintro w ⟨p0, p1, p2⟩; go_simp)) hS ?_
  simp only [List.setIfInBounds_toArray, List.set_cons_zero, List.set_cons_succ]
  refine takeT (i := 7) (d := 42) (v := .pointer (some ⟨b, 1, none⟩)) rfl rfl (by kernel_rfl) (by kernel_rfl) (by kernel_rfl) (fun _ _ _ h => h) (by rfl) (by (rintro w ⟨p0, p1, p2⟩; go_simp)) hS ?_
  simp only [List.setIfInBounds_toArray, List.set_cons_zero, List.set_cons_succ]
  refine takeT (i := 8) (d := 43) (v := .int .i64 a) rfl rfl (by kernel_rfl) (by kernel_rfl) (by kernel_rfl) (fun _ _ _ h => h) (by rfl) (by (rintro w ⟨p0, p1, p2⟩; go_simp)) hS ?_
  simp only [List.setIfInBounds_toArray, List.set_cons_zero, List.set_cons_succ]
  refine takeT (i := 9) (d := 44) (v := .int .i64 (i : Int)) rfl rfl (by kernel_rfl) (by kernel_rfl) (by kernel_rfl) (fun _ _ _ h => h) (by rfl) (by (rintro w ⟨p0, p1, p2⟩; go_simp)) hS ?_
  simp only [List.setIfInBounds_toArray, List.set_cons_zero, List.set_cons_succ]
  refine takeT (i := 10) (d := 45) (v := .slice (some ⟨g, i, none⟩) (out.length - i) (cap - i)) rfl rfl (by kernel_rfl) (by kernel_rfl) (by kernel_rfl) (fun _ _ _ h => h) (by rfl) (by (rintro w ⟨p0, p1, p2⟩; go_simp; intro hc; omega)) hS ?_
  simp only [List.setIfInBounds_toArray, List.set_cons_zero, List.set_cons_succ]
  refine takeT (i := 11) (d := 46) (v := .int .i64 n) rfl rfl (by kernel_rfl) (by kernel_rfl) (by kernel_rfl) (fun _ _ _ h => h) (by rfl) (by (rintro w ⟨p0, p1, p2⟩; go_simp)) hS ?_
  simp only [List.setIfInBounds_toArray, List.set_cons_zero, List.set_cons_succ]
  refine takeT (i := 12) (d := 47) (v := .pointer (some ⟨b, 0, none⟩)) rfl rfl (by kernel_rfl) (by kernel_rfl) (by kernel_rfl) (fun _ _ _ h => h) (by rfl) (by (rintro w ⟨p0, p1, p2⟩; go_simp)) hS ?_
  simp only [List.setIfInBounds_toArray, List.set_cons_zero, List.set_cons_succ]
  refine takeT (i := 13) (d := 48) (v := .pointer (some ⟨b, 0, none⟩)) rfl rfl (by kernel_rfl) (by kernel_rfl) (by kernel_rfl) (fun _ _ _ h => h) (by rfl) (by (rintro w ⟨p0, p1, p2⟩; go_simp)) hS ?_
  simp only [List.setIfInBounds_toArray, List.set_cons_zero, List.set_cons_succ]
  refine takeT (i := 14) (d := 49) (v := .pointer (some ⟨b, 0, none⟩)) rfl rfl (by kernel_rfl) (by kernel_rfl) (by kernel_rfl) (fun _ _ _ h => h) (by rfl) (by (rintro w ⟨p0, p1, p2⟩; go_simp)) hS ?_
  simp only [List.setIfInBounds_toArray, List.set_cons_zero, List.set_cons_succ]
  refine takeT (i := 15) (d := 50) (v := .bool big) rfl rfl (by kernel_rfl) (by kernel_rfl) (by kernel_rfl) (fun _ _ _ h => h) (by rfl) (by (rintro w ⟨p0, p1, p2⟩; go_simp)) hS ?_
  simp only [List.setIfInBounds_toArray, List.set_cons_zero, List.set_cons_succ]
  refine wpAnyH_ready (rs := [16]) (by kernel_rfl) (by simp) ?_
  refine AllReadyH.cons rfl (fun K hK => ?_) AllReadyH.nil
  rw [if_pos (by rfl)]
  go_simp
  refine (NB.out _).mono ?_
  rintro e w4 ⟨rfl, hb4⟩
  have hh4 := (show RHolds (w.drewN nq).drew b big a (.slice (some ⟨g, 0, none⟩) out.length cap) out from H.out).below hb4
  have hgl : g < w.heap.size := (Array.getElem?_eq_some_iff.1 HG.out).1
  have hg4 : w4.heap[g]? = some (.cells cur 5 (0, 0)) := (hb4.block g hgl).trans HG.out
  have hw4 : Wrote w w4 b (.slice (some ⟨g, 0, none⟩) out.length cap) (.slice (some ⟨g, 0, none⟩) out.length cap) := (⟨rfl, rfl, rfl, Nat.le_refl _, fun _ _ _ _ => rfl, fun _ h => .inl h⟩ : Wrote w (w.drewN nq).drew b (.slice (some ⟨g, 0, none⟩) out.length cap) (.slice (some ⟨g, 0, none⟩) out.length cap)).below hb4
  have hS4 : RPutS b g cap out.length big a w4 := ⟨hh4.1.c0, hh4.1.c1, hh4.1.c2⟩
  refine hK.out _ _ hS4 (fun _ => ?_)
  clear hK K
  refine wpAnyH_ready (rs := [17]) (by kernel_rfl) (by simp) ?_
  refine AllReadyH.cons rfl (fun K hK => ?_) AllReadyH.nil
  rw [if_pos (by rfl)]
  have hsz := numB_size n big 4
  refine wp_copy_row_string (.tmp 45) (.tmp 51) 54 9 rfl 5 Try.underlying54 (by kernel_rfl) g i (out.length - i) (cap - i) rfl ⟨(numB n big 4).toArray⟩ rfl (by rw [hsz]; omega) cur 5 hg4 (by rw [hsz, HC.out]; omega) ?_
  rw [hsz]
  show K _ (w4.setRow g (cur.toList.take i ++ bcells (numB n big 4) ++ cur.toList.drop (i + 4)).toArray)
  have hl4 : (numB n big 4).length = 4 := by simp [numB, shs_length]
  obtain ⟨nc, hnc⟩ : ∃ nc, cur.toList.take i ++ bcells (numB n big 4) ++ cur.toList.drop (i + 4) = nc := ⟨_, rfl⟩
  have hncl : nc.length = cap := by
    have h5 := HC.out
    rw [← hnc]
    simp [bcells, hl4]
    omega
  have hnct : nc.take out.length = bcells (patch out i (numB n big 4)) := by
    have := patch_cells cur.toList out (numB n big 4) i HT.out (by rw [hl4]; omega)
    rw [hl4] at this
    rw [← hnc]
    exact this
  rw [hnc]
  have hg5 : (w4.setRow g nc.toArray).heap[g]? = some (.cells nc.toArray 5 (0, 0)) := by simp [World.setRow, Array.getElem?_modify, hg4]
  have ho5 : ∀ k, k ≠ g → (w4.setRow g nc.toArray).heap[k]? = w4.heap[k]? := fun k hk => setRow_other w4 g k _ hk
  have hs5 : w4.heap.size ≤ (w4.setRow g nc.toArray).heap.size := by simp [World.setRow]
  have hos : (w4.setRow g nc.toArray).os = w4.os ∧ (w4.setRow g nc.toArray).tape = w4.tape ∧ (w4.setRow g nc.toArray).output = w4.output := ⟨rfl, rfl, rfl⟩
  generalize w4.setRow g nc.toArray = w5 at hg5 ho5 hs5 hos
  have hbg : b ≠ g := fun e => by
    have h6 := hh4.1
    unfold RAt at h6
    rw [e, hg4] at h6
    cases h6
  have hv5 : RAt w5 b big a (.slice (some ⟨g, 0, none⟩) out.length cap) := (ho5 b hbg).trans hh4.1
  have hpl : (patch out i (numB n big 4)).length = out.length := patch_length _ _ _ (by rw [hl4]; omega)
  have hR5 : Hid (RHolds w5 b big a (.slice (some ⟨g, 0, none⟩) out.length cap) (patch out i (numB n big 4))) := Lib.hid ⟨hv5, by
    rw [hpl]
    refine ⟨by rw [bcells_length, hpl]; simp, .inr ⟨g, cap, nc.toArray, rfl, Nat.zero_le _, hg5, hncap, HM.out, by simpa using hncl, ?_⟩⟩
    simpa using hnct⟩
  have hW5 : Hid (Wrote w w5 b (.slice (some ⟨g, 0, none⟩) out.length cap) (.slice (some ⟨g, 0, none⟩) out.length cap)) := Lib.hid ⟨hos.1.trans hw4.os, hos.2.1.trans hw4.tape, hos.2.2.trans hw4.output, Nat.le_trans hw4.size hs5,
    fun k hk hkb hkg => (ho5 k (fun e => hkg (by rw [e]; rfl))).trans (hw4.block k hk hkb hkg), fun _ h => .inl h⟩
  refine hK.out _ _ ⟨hv5.c0, hv5.c1, hv5.c2⟩ (fun _ => ?_)
  clear hK K
  refine wpAnyH_done (by kernel_rfl) ?_ _
  clear hg5 ho5 hs5 hos hv5 hS hS4 hg4
  go_wp2_with fail
  go_ret
  first | exact ⟨rfl, _, hR5.out, hW5.out⟩ | exact ⟨_, rfl, hR5.out, hW5.out⟩
end Go.Proofs.Ytdklmeamhcgohaa
