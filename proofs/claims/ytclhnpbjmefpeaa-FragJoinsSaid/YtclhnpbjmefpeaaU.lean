/- The law FragJoins returns true, whatever the pieces and the size. -/
import Derived.Test.YtclhnpbjmefpeaaT
namespace Go.Proofs.Ytclhnpbjmefpeaa
open Go.RowKit Go.BigFrame

theorem cutL_few (id : Int) (b : ByteArray) (n : Int) : (cutL id b n).length ≤ 65537 := by
  cases hm : msgB id b
  · unfold cutL; rw [if_neg (by rw [hm]; decide)]; simp
  · have h1 := cutL_len id b n
    have h2 := msg_body hm
    omega
theorem agL_few (l : List Pc) (n : Int) : (agL l n).length ≤ 65537 := by
  unfold agL
  split
  · split
    · split
      · exact cutL_few _ _ _
      · simp
    · simp
  · simp

/-- A piece's block, and what it holds whatever comes behind it. -/
theorem pc_cells {W W' : World} {i pl : Int} {m : Bool} {b : ByteArray} (h : Below (W.heap.size + 1) (W.alloc (pcO i pl m b)) W') : W'.cell? ⟨W.heap.size, 0, none⟩ = some (.int .i64 i) ∧ W'.cell? ⟨W.heap.size, 1, none⟩ = some (.int .i64 pl) ∧ W'.cell? ⟨W.heap.size, 2, none⟩ = some (.bool m) ∧ W'.cell? ⟨W.heap.size, 3, none⟩ = some (.string b) := by
  have g := heap_alloc_new W (pcO i pl m b)
  have hb : ∀ j, W'.cell? ⟨W.heap.size, j, none⟩ = (W.alloc (pcO i pl m b)).cell? ⟨W.heap.size, j, none⟩ := fun j => h.cell (p := ⟨W.heap.size, j, none⟩) (by simp)
  have c : ∀ j, (W.alloc (pcO i pl m b)).cell? ⟨W.heap.size, j, none⟩ = #[Value.int .i64 i, .int .i64 pl, .bool m, .string b][j]? := fun j => cells_at g j
  refine ⟨(hb 0).trans (c 0), (hb 1).trans (c 1), (hb 2).trans (c 2), (hb 3).trans (c 3)⟩
theorem below_next {W W1 W2 : World} {o : Obj} (h : Below (W.heap.size + 1) (W.alloc o) W1) (h2 : Below W1.heap.size W1 W2) : Below (W.heap.size + 1) (W.alloc o) W2 := h.trans (h2.mono (by have := h.size; simp at this; omega))
theorem below_alloc1 (W : World) (o : Obj) : Below (W.heap.size + 1) (W.alloc o) (W.alloc o).drew := ⟨rfl, rfl, rfl, by simp, fun _ _ => rfl⟩

set_option maxRecDepth 100000 in
set_option maxHeartbeats 8000000 in
theorem joinLaw_any (ao : Option Addr) (cap : Nat) (l : List Pc) (n : Int) (w : World) (h : RowAt w ao l) (hl : l.length ≤ 9223372036854775807) :
    Calls Try.prog 4 #[.slice ao l.length cap, .int .i64 n] w fun e w' => e = .returned (.bool true) ∧ Below w.heap.size w w' := by
  have HR := Lib.hid h
  have HL := Lib.hid hl
  have AW := Lib.hid fun wx => awake_any wx
  have LI := Lib.hid (light_any ao cap l w h hl)
  clear h hl
  go_enter Try.func4, Try.ntmps4
  go_wp2_with fail
  refine LI.out.mono ?_
  rintro e w1 ⟨r, rfl, hr, hb1⟩
  have B1 := Lib.hid hb1
  cases r
  · clear hr hb1
    go_wp2_with (go_at_call 6; refine (AW.out _).mono ?_; rintro e w2 ⟨rfl, hb2⟩; have B2 := Lib.hid (B1.out.trans (hb2.mono B1.out.size)); clear hb2)
    go_ret
    exact ⟨rfl, B2.out⟩
  have HF : Hid (l.length ≤ 200) := Lib.hid (hr (by first | rfl | trivial))
  clear hr hb1
  go_wp2_with fail
  go_loopw [23] (fun i wr => ∃ k : Nat, i = .int .i64 k ∧ k ≤ l.length ∧ Below w.heap.size w wr) (fun i _ => l.length - (intOf i).toNat)
  case atStart => exact ⟨0, rfl, Nat.zero_le _, B1.out⟩
  case round =>
    obtain ⟨k, rfl, hk, hbel⟩ := hrel
    have HB := Lib.hid hbel
    clear hbel
    by_cases hlt : k < l.length
    · rcases HR.out with h0 | ⟨b, off, rfl, hb, hp⟩
      · subst h0; exact absurd hlt (by simp)
      obtain ⟨c0, c1, c2, c3⟩ := (hp.below HB.out hb) k hlt
      obtain ⟨p, hpp⟩ : ∃ p, l[k] = p := ⟨_, rfl⟩
      rw [hpp] at c0 c1 c2 c3
      obtain ⟨pi, pl, m, bd⟩ := p
      simp only at c0 c1 c2 c3
      obtain ⟨r, hr⟩ : ∃ r, vP ⟨pi, pl, m, bd⟩ = r := ⟨_, rfl⟩
      have VA := Lib.hid fun wx => valid_any pi pl m bd wx
      have VB := Lib.hid fun wx => rvalid_any pi pl m bd wx
      rw [hr] at VA VB
      have hk1 : (k : Int) < (l.length : Int) := by omega
      have hk2 : (k : Int) + 1 ≤ 2000 := by have := HF.out; omega
      have hk0 : (0 : Int) ≤ (k : Int) := by omega
      have HLT := Lib.hid hlt
      have HX := Lib.hid (below_alloc1 wr (pcO pi pl m bd))
      have HS0 : Hid (Below w.heap.size w (wr.alloc (pcO pi pl m bd))) := Lib.hid (HB.out.trans (((Below.refl _ _).alloc (Nat.le_refl _) _).mono HB.out.size))
      have HSZ : Hid (w.heap.size ≤ wr.heap.size + 1) := Lib.hid (by have := HB.out.size; omega)
      clear hpp hp hr hlt hk
      go_wp2_with fail
      go_region_with (first | (go_at_call 15; refine (VA.out _).mono ?_; rintro e w2 ⟨rfl, hb2⟩; have hx := below_next HX.out hb2; obtain ⟨q0, q1, q2, q3⟩ := pc_cells hx; have HX := Lib.hid hx; clear hx hb2) | (go_at_call 16; refine (VB.out _).mono ?_; rintro e w2 ⟨rfl, hb2⟩; have hx := below_next HX.out hb2; obtain ⟨q0, q1, q2, q3⟩ := pc_cells hx; have HX := Lib.hid hx; clear hx hb2))
      all_goals
        go_wp2_with fail
        exact ⟨⟨k + 1, by go_num, HLT.out, HS0.out.trans (HX.out.mono HSZ.out)⟩, by simp [intOf]; have := HLT.out; omega⟩
    · obtain rfl : k = l.length := by omega
      clear hlt hk
      have JA := Lib.hid fun wx (hx : Below w.heap.size w wx) => joins_any ao cap l wx (HR.out.below hx)
      have JB := Lib.hid fun wx (hx : Below w.heap.size w wx) => rjoin_any ao cap l wx (HR.out.below hx) (by have := HF.out; omega)
      have GA := Lib.hid fun wx (hx : Below w.heap.size w wx) => again_any ao cap l n wx (HR.out.below hx)
      have GB := Lib.hid fun wx (hx : Below w.heap.size w wx) => ragain_any ao cap l n wx (HR.out.below hx) (by have := HF.out; omega)
      obtain ⟨ji, hji⟩ : ∃ x, jnI l = x := ⟨_, rfl⟩
      obtain ⟨jb, hjb⟩ : ∃ x, jnB l = x := ⟨_, rfl⟩
      obtain ⟨je, hje⟩ : ∃ x, jnE l = x := ⟨_, rfl⟩
      obtain ⟨gl, hgl⟩ : ∃ x, agL l n = x := ⟨_, rfl⟩
      obtain ⟨ge, hge⟩ : ∃ x, agE l n = x := ⟨_, rfl⟩
      have HJ : Hid (jnI l = ji ∧ jnB l = jb ∧ jnE l = je) := Lib.hid ⟨hji, hjb, hje⟩
      have HFEW : Hid (gl.length ≤ 1000000) := Lib.hid (by have := agL_few l n; rw [hgl] at this; omega)
      rw [hgl, hge] at GA GB
      clear hji hjb hje hgl hge
      go_wp2_with (first
        | (go_at_call 12; refine (JA.out _ HB.out).mono ?_; rintro e w2 ⟨he, hb2⟩; rw [HJ.out.1, HJ.out.2.1, HJ.out.2.2] at he; subst he; have B2 := Lib.hid (HB.out.trans (hb2.mono HB.out.size)); clear hb2)
        | (go_at_call 17; refine (JB.out _ B2.out).mono ?_; rintro e w3 ⟨he, hb3⟩; rw [HJ.out.1, HJ.out.2.1, HJ.out.2.2] at he; subst he; have B3 := Lib.hid (B2.out.trans (hb3.mono B2.out.size)); clear hb3)
        | (go_at_call 13; refine (GA.out _ B3.out).mono ?_; rintro e w4 ⟨d, hd, rfl, hdo, hb4⟩; subst hd; have HD := Lib.hid hdo; have B4 := Lib.hid (B3.out.trans (hb4.mono B3.out.size)); clear hdo hb4; unfold SlD.v; simp only)
        | (go_at_call 18; refine (GB.out _ B4.out).mono ?_; rintro e w5 ⟨d2, hd2, rfl, hdo2, hb5⟩; have B5 := Lib.hid (B4.out.trans (hb5.mono B4.out.size)); have HD2 := Lib.hid (hdo2.row); have HD1 := Lib.hid (HD.out.row.below hb5); rw [hd2] at HD2; clear hdo2 hb5; unfold SlD.v; rw [hd2]; clear hd2)
        | (go_at_call 11; refine (same_eq _ _ _ _ _ _ HD1.out HD2.out HFEW.out).mono ?_; rintro e w6 ⟨rfl, hb6⟩; have B6 := Lib.hid (B5.out.trans (hb6.mono B5.out.size)); clear hb6)
        | (go_at_call 6; refine (AW.out _).mono ?_; rintro e w7 ⟨rfl, hb7⟩; have B7 := Lib.hid (B6.out.trans (hb7.mono B6.out.size)); clear hb7))
      go_ret
      exact ⟨rfl, B7.out⟩

end Go.Proofs.Ytclhnpbjmefpeaa
