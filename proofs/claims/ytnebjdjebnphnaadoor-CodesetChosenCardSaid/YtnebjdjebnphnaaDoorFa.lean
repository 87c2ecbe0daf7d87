/- Choose of both packages. -/
import Derived.Test.YtnebjdjebnphnaaDoorKd
namespace Go.Proofs.YtnebjdjebnphnaaDoor
set_option maxRecDepth 8000
open Go.RowKit Go.BigFrame

/-- The code set in which both talk, and the error. -/
def chN (n : Int) (l : List Int) (m : Int) (r : List Int) : Int :=
  if (validC n l && validC m r) = false then 0 else if speaksC n l m = true then m else if speaksC m r n = true then n else match l.find? (speaksC m r) with
    | some x => x
    | none => if n = 4 ∨ m = 4 then 0 else 3
def chE (n : Int) (l : List Int) (m : Int) (r : List Int) : Int :=
  if (validC n l && validC m r) = false then 1 else if speaksC n l m = true then 0 else if speaksC m r n = true then 0 else match l.find? (speaksC m r) with
    | some _ => 0
    | none => if n = 4 ∨ m = 4 then 8 else 0
def ChP (n : Int) (l : List Int) (m : Int) (r : List Int) (e : Ending) : Prop := e = .returned (.tuple #[.int .i64 (chN n l m r), .int .i64 (chE n l m r)])
section
variable {n m : Int} {l r : List Int} {e : Ending}
theorem ChP.bad (h : (validC n l && validC m r) = false) (he : e = .returned (.tuple #[.int .i64 0, .int .i64 1])) : ChP n l m r e := by
  unfold ChP chN chE
  rw [he]
  simp only [h, if_true]
theorem ChP.one (h : (validC n l && validC m r) = true) (h1 : speaksC n l m = true) (he : e = .returned (.tuple #[.int .i64 m, .int .i64 0])) : ChP n l m r e := by
  unfold ChP chN chE
  rw [he]
  simp only [h, h1, if_true, if_false, Bool.true_eq_false]
theorem ChP.two (h : (validC n l && validC m r) = true) (h1 : speaksC n l m = false) (h2 : speaksC m r n = true) (he : e = .returned (.tuple #[.int .i64 n, .int .i64 0])) : ChP n l m r e := by
  unfold ChP chN chE
  rw [he]
  simp only [h, h1, h2, if_true, if_false, Bool.false_eq_true, Bool.true_eq_false]
theorem ChP.found {x : Int} (h : (validC n l && validC m r) = true) (h1 : speaksC n l m = false) (h2 : speaksC m r n = false) (h3 : l.find? (speaksC m r) = some x) (he : e = .returned (.tuple #[.int .i64 x, .int .i64 0])) : ChP n l m r e := by
  unfold ChP chN chE
  rw [he]
  simp only [h, h1, h2, h3, if_false, Bool.false_eq_true, Bool.true_eq_false]
theorem ChP.none4 (h : (validC n l && validC m r) = true) (h1 : speaksC n l m = false) (h2 : speaksC m r n = false) (h3 : l.find? (speaksC m r) = none) (h4 : n = 4 ∨ m = 4) (he : e = .returned (.tuple #[.int .i64 0, .int .i64 8])) : ChP n l m r e := by
  unfold ChP chN chE
  rw [he]
  simp only [h, h1, h2, h3, h4, if_true, if_false, Bool.false_eq_true, Bool.true_eq_false]
theorem ChP.none3 (h : (validC n l && validC m r) = true) (h1 : speaksC n l m = false) (h2 : speaksC m r n = false) (h3 : l.find? (speaksC m r) = none) (h4 : ¬ (n = 4 ∨ m = 4)) (he : e = .returned (.tuple #[.int .i64 3, .int .i64 0])) : ChP n l m r e := by
  unfold ChP chN chE
  rw [he]
  simp only [h, h1, h2, h3, h4, if_false, Bool.false_eq_true, Bool.true_eq_false]
theorem find_at {p : Int → Bool} {k : Nat} {x : Int} (h : l[k]? = some x) (h0 : (l.take k).find? p = none) (hp : p x = true) : l.find? p = some x := by
  obtain ⟨hk, hx⟩ := List.getElem?_eq_some_iff.1 h
  have e : l = l.take k ++ (x :: l.drop (k + 1)) := by rw [← hx, List.getElem_cons_drop, List.take_append_drop]
  rw [e, List.find?_append, h0, Option.none_or, List.find?_cons, hp]
theorem find_next {p : Int → Bool} {k : Nat} {x : Int} (h : l[k]? = some x) (h0 : (l.take k).find? p = none) (hp : p x = false) : (l.take (k + 1)).find? p = none := by
  obtain ⟨hk, hx⟩ := List.getElem?_eq_some_iff.1 h
  rw [List.take_succ_eq_append_getElem hk, hx, List.find?_append, h0, Option.none_or, List.find?_cons, hp]
  rfl
end

/-- The two boxes of codes. -/
structure BxI (w : World) (n : Int) (a1 : Option Addr) (k1 c1 : Nat) (m : Int) (a2 : Option Addr) (k2 c2 : Nat) (wr : World) : Prop where
  p0 : wr.cell? ⟨w.heap.size, 0, none⟩ = some (.int .i64 n)
  p1 : wr.cell? ⟨w.heap.size, 1, none⟩ = some (.slice a1 k1 c1)
  q0 : wr.cell? ⟨w.heap.size + 1, 0, none⟩ = some (.int .i64 m)
  q1 : wr.cell? ⟨w.heap.size + 1, 1, none⟩ = some (.slice a2 k2 c2)
  lt : w.heap.size + 1 < wr.heap.size
  below : Below w.heap.size w wr
theorem BxI.later {w wr wx : World} {n : Int} {a1 : Option Addr} {k1 c1 : Nat} {m : Int} {a2 : Option Addr} {k2 c2 : Nat} (h : BxI w n a1 k1 c1 m a2 k2 c2 wr) (hb : Below wr.heap.size wr wx) : BxI w n a1 k1 c1 m a2 k2 c2 wx :=
  ⟨(hb.cell (by have := h.lt; simp only; omega)).trans h.p0, (hb.cell (by have := h.lt; simp only; omega)).trans h.p1, (hb.cell h.lt).trans h.q0, (hb.cell h.lt).trans h.q1, Nat.lt_of_lt_of_le h.lt hb.size, h.below.trans (hb.mono h.below.size)⟩
theorem BxI.start (w : World) (n : Int) (a1 : Option Addr) (k1 c1 : Nat) (m : Int) (a2 : Option Addr) (k2 c2 : Nat) : BxI w n a1 k1 c1 m a2 k2 c2 ((w.alloc (.cells #[.int .i64 n, .slice a1 k1 c1] 36)).alloc (.cells #[.int .i64 m, .slice a2 k2 c2] 36)) := by
  have e1 : ((w.alloc (.cells #[.int .i64 n, .slice a1 k1 c1] 36)).alloc (.cells #[.int .i64 m, .slice a2 k2 c2] 36)).heap[w.heap.size]? = some (.cells #[.int .i64 n, .slice a1 k1 c1] 36) := (Below.heap_alloc _ _ _ (by simp)).trans (World.alloc_heap_new w _)
  have e2 := World.alloc_heap_new (w.alloc (.cells #[.int .i64 n, .slice a1 k1 c1] 36)) (.cells #[.int .i64 m, .slice a2 k2 c2] 36)
  rw [World.size_alloc] at e2
  exact ⟨cells_at e1 0, cells_at e1 1, cells_at e2 0, cells_at e2 1, by simp, ((Below.refl _ _).alloc (Nat.le_refl _) _).alloc (by simp) _⟩

set_option maxRecDepth 100000 in
set_option maxHeartbeats 8000000 in
theorem choose_any (n m : Int) (a1 a2 : Option Addr) (c1 c2 : Nat) (l r : List Int) (w : World) (h1 : IntRow w a1 l) (h2 : IntRow w a2 r) (hc1 : l.length ≤ c1) (hc2 : r.length ≤ c2) (hl : l.length ≤ 2000) (hr : r.length ≤ 2000) :
    Calls Tryd.prog 16 #[.agg #[.int .i64 n, .slice a1 l.length c1], .agg #[.int .i64 m, .slice a2 r.length c2]] w fun e w' => ChP n l m r e ∧ Below w.heap.size w w' := by
  have H1 := Lib.hid h1
  have V1 := Lib.hid fun wx (hx : Below w.heap.size w wx) => valid_any n a1 c1 l wx (h1.below hx) hc1
  have V2 := Lib.hid fun wx (hx : Below w.heap.size w wx) => valid_any m a2 c2 r wx (h2.below hx) hc2
  have S1 := Lib.hid fun wx (hx : Below w.heap.size w wx) => speaks_any n m a1 c1 l wx (h1.below hx) hl
  have S2 := Lib.hid fun wx (hx : Below w.heap.size w wx) => speaks_any m n a2 c2 r wx (h2.below hx) hr
  have S3 := Lib.hid fun x wx (hx : Below w.heap.size w wx) => speaks_any m x a2 c2 r wx (h2.below hx) hr
  have HX := Lib.hid (BxI.start w n a1 l.length c1 m a2 r.length c2)
  have HLN := Lib.hid hl
  have p0 := True.intro
  have p1 := True.intro
  have q0 := True.intro
  have q1 := True.intro
  clear h1 h2 hc1 hc2 hl hr
  cases hv1 : validC n l with
  | false =>
    have HV : Hid ((validC n l && validC m r) = false) := Lib.hid (by rw [hv1]; rfl)
    rw [hv1] at V1
    clear hv1
    go_enter Tryd.func16, Tryd.ntmps16
    go_wp2_with (first
        | (go_at_call 21; refine (V1.out _ HX.out.below).mono ?_; rintro e w1 ⟨rfl, hb⟩; replace HX := Lib.hid (HX.out.later hb); clear hb p0 p1 q0 q1 V1; have p0 := HX.out.p0; have p1 := HX.out.p1; have q0 := HX.out.q0; have q1 := HX.out.q1)
        | (go_at_call 21; refine (V2.out _ HX.out.below).mono ?_; rintro e w1 ⟨rfl, hb⟩; replace HX := Lib.hid (HX.out.later hb); clear hb p0 p1 q0 q1; have p0 := HX.out.p0; have p1 := HX.out.p1; have q0 := HX.out.q0; have q1 := HX.out.q1)
        | (go_at_call 36; refine (S1.out _ HX.out.below).mono ?_; rintro e w1 ⟨rfl, hb⟩; replace HX := Lib.hid (HX.out.later hb); clear hb p0 p1 q0 q1 S1; have p0 := HX.out.p0; have p1 := HX.out.p1; have q0 := HX.out.q0; have q1 := HX.out.q1)
        | (go_at_call 36; refine (S2.out _ HX.out.below).mono ?_; rintro e w1 ⟨rfl, hb⟩; replace HX := Lib.hid (HX.out.later hb); clear hb p0 p1 q0 q1; have p0 := HX.out.p0; have p1 := HX.out.p1; have q0 := HX.out.q0; have q1 := HX.out.q1))
    go_ret2
    exact ⟨ChP.bad HV.out rfl, HX.out.below⟩
  | true =>
    cases hv2 : validC m r with
    | false =>
      have HV : Hid ((validC n l && validC m r) = false) := Lib.hid (by rw [hv2, Bool.and_false])
      rw [hv1] at V1
      rw [hv2] at V2
      clear hv1 hv2
      go_enter Tryd.func16, Tryd.ntmps16
      go_wp2_with (first
        | (go_at_call 21; refine (V1.out _ HX.out.below).mono ?_; rintro e w1 ⟨rfl, hb⟩; replace HX := Lib.hid (HX.out.later hb); clear hb p0 p1 q0 q1 V1; have p0 := HX.out.p0; have p1 := HX.out.p1; have q0 := HX.out.q0; have q1 := HX.out.q1)
        | (go_at_call 21; refine (V2.out _ HX.out.below).mono ?_; rintro e w1 ⟨rfl, hb⟩; replace HX := Lib.hid (HX.out.later hb); clear hb p0 p1 q0 q1; have p0 := HX.out.p0; have p1 := HX.out.p1; have q0 := HX.out.q0; have q1 := HX.out.q1)
        | (go_at_call 36; refine (S1.out _ HX.out.below).mono ?_; rintro e w1 ⟨rfl, hb⟩; replace HX := Lib.hid (HX.out.later hb); clear hb p0 p1 q0 q1 S1; have p0 := HX.out.p0; have p1 := HX.out.p1; have q0 := HX.out.q0; have q1 := HX.out.q1)
        | (go_at_call 36; refine (S2.out _ HX.out.below).mono ?_; rintro e w1 ⟨rfl, hb⟩; replace HX := Lib.hid (HX.out.later hb); clear hb p0 p1 q0 q1; have p0 := HX.out.p0; have p1 := HX.out.p1; have q0 := HX.out.q0; have q1 := HX.out.q1))
      go_ret2
      exact ⟨ChP.bad HV.out rfl, HX.out.below⟩
    | true =>
      have HV : Hid ((validC n l && validC m r) = true) := Lib.hid (by rw [hv1, hv2]; rfl)
      rw [hv1] at V1
      rw [hv2] at V2
      clear hv1 hv2
      cases hs1 : speaksC n l m with
      | true =>
        have HS1 := Lib.hid hs1
        rw [hs1] at S1
        clear hs1
        go_enter Tryd.func16, Tryd.ntmps16
        go_wp2_with (first
        | (go_at_call 21; refine (V1.out _ HX.out.below).mono ?_; rintro e w1 ⟨rfl, hb⟩; replace HX := Lib.hid (HX.out.later hb); clear hb p0 p1 q0 q1 V1; have p0 := HX.out.p0; have p1 := HX.out.p1; have q0 := HX.out.q0; have q1 := HX.out.q1)
        | (go_at_call 21; refine (V2.out _ HX.out.below).mono ?_; rintro e w1 ⟨rfl, hb⟩; replace HX := Lib.hid (HX.out.later hb); clear hb p0 p1 q0 q1; have p0 := HX.out.p0; have p1 := HX.out.p1; have q0 := HX.out.q0; have q1 := HX.out.q1)
        | (go_at_call 36; refine (S1.out _ HX.out.below).mono ?_; rintro e w1 ⟨rfl, hb⟩; replace HX := Lib.hid (HX.out.later hb); clear hb p0 p1 q0 q1 S1; have p0 := HX.out.p0; have p1 := HX.out.p1; have q0 := HX.out.q0; have q1 := HX.out.q1)
        | (go_at_call 36; refine (S2.out _ HX.out.below).mono ?_; rintro e w1 ⟨rfl, hb⟩; replace HX := Lib.hid (HX.out.later hb); clear hb p0 p1 q0 q1; have p0 := HX.out.p0; have p1 := HX.out.p1; have q0 := HX.out.q0; have q1 := HX.out.q1))
        go_ret2
        exact ⟨ChP.one HV.out HS1.out rfl, HX.out.below⟩
      | false =>
        have HS1 := Lib.hid hs1
        have HNE : Hid (¬ n = m) := Lib.hid fun g => by
          have := HS1.out
          unfold speaksC at this
          rw [decide_eq_true g] at this
          exact absurd this (by simp)
        rw [hs1] at S1
        clear hs1
        cases hs2 : speaksC m r n with
        | true =>
          have HS2 := Lib.hid hs2
          rw [hs2] at S2
          clear hs2
          go_enter Tryd.func16, Tryd.ntmps16
          go_wp2_with (first
        | (go_at_call 21; refine (V1.out _ HX.out.below).mono ?_; rintro e w1 ⟨rfl, hb⟩; replace HX := Lib.hid (HX.out.later hb); clear hb p0 p1 q0 q1 V1; have p0 := HX.out.p0; have p1 := HX.out.p1; have q0 := HX.out.q0; have q1 := HX.out.q1)
        | (go_at_call 21; refine (V2.out _ HX.out.below).mono ?_; rintro e w1 ⟨rfl, hb⟩; replace HX := Lib.hid (HX.out.later hb); clear hb p0 p1 q0 q1; have p0 := HX.out.p0; have p1 := HX.out.p1; have q0 := HX.out.q0; have q1 := HX.out.q1)
        | (go_at_call 36; refine (S1.out _ HX.out.below).mono ?_; rintro e w1 ⟨rfl, hb⟩; replace HX := Lib.hid (HX.out.later hb); clear hb p0 p1 q0 q1 S1; have p0 := HX.out.p0; have p1 := HX.out.p1; have q0 := HX.out.q0; have q1 := HX.out.q1)
        | (go_at_call 36; refine (S2.out _ HX.out.below).mono ?_; rintro e w1 ⟨rfl, hb⟩; replace HX := Lib.hid (HX.out.later hb); clear hb p0 p1 q0 q1; have p0 := HX.out.p0; have p1 := HX.out.p1; have q0 := HX.out.q0; have q1 := HX.out.q1))
          go_ret2
          exact ⟨ChP.two HV.out HS1.out HS2.out rfl, HX.out.below⟩
        | false =>
          have HS2 := Lib.hid hs2
          rw [hs2] at S2
          clear hs2
          go_enter Tryd.func16, Tryd.ntmps16
          go_wp2_with (first
        | (go_at_call 21; refine (V1.out _ HX.out.below).mono ?_; rintro e w1 ⟨rfl, hb⟩; replace HX := Lib.hid (HX.out.later hb); clear hb p0 p1 q0 q1 V1; have p0 := HX.out.p0; have p1 := HX.out.p1; have q0 := HX.out.q0; have q1 := HX.out.q1)
        | (go_at_call 21; refine (V2.out _ HX.out.below).mono ?_; rintro e w1 ⟨rfl, hb⟩; replace HX := Lib.hid (HX.out.later hb); clear hb p0 p1 q0 q1; have p0 := HX.out.p0; have p1 := HX.out.p1; have q0 := HX.out.q0; have q1 := HX.out.q1)
        | (go_at_call 36; refine (S1.out _ HX.out.below).mono ?_; rintro e w1 ⟨rfl, hb⟩; replace HX := Lib.hid (HX.out.later hb); clear hb p0 p1 q0 q1 S1; have p0 := HX.out.p0; have p1 := HX.out.p1; have q0 := HX.out.q0; have q1 := HX.out.q1)
        | (go_at_call 36; refine (S2.out _ HX.out.below).mono ?_; rintro e w1 ⟨rfl, hb⟩; replace HX := Lib.hid (HX.out.later hb); clear hb p0 p1 q0 q1; have p0 := HX.out.p0; have p1 := HX.out.p1; have q0 := HX.out.q0; have q1 := HX.out.q1))
          go_loopw [4, 5, 33] (fun x e i wr => x = .int .i64 0 ∧ e = .int .i64 0 ∧ BxI w n a1 l.length c1 m a2 r.length c2 wr ∧ ∃ k : Nat, i = .int .i64 k ∧ k ≤ l.length ∧ (l.take k).find? (speaksC m r) = none) (fun _ _ i _ => l.length - (intOf i).toNat)
          case atStart => exact ⟨rfl, rfl, HX.out, 0, rfl, Nat.zero_le _, rfl⟩
          case round =>
            clear p0 p1 q0 q1 HX
            obtain ⟨rfl, rfl, hx, k, rfl, hk, hno⟩ := hrel
            have p0 := hx.p0
            have p1 := hx.p1
            have q0 := hx.q0
            have q1 := hx.q1
            have HX := Lib.hid hx
            have HF := Lib.hid hno
            clear hx hno
            by_cases hlt : k < l.length
            · rcases H1.out with h0 | ⟨b, off, rfl, hb, hp⟩
              · subst h0; exact absurd hlt (by simp)
              obtain ⟨x, hx⟩ : ∃ x, l[k]? = some x := ⟨_, List.getElem?_eq_getElem hlt⟩
              have d0 : wr.cell? ⟨b, off + k, none⟩ = some (.int .i64 x) := by rw [List.getElem?_eq_getElem hlt] at hx; cases hx; exact (hp.below HX.out.below hb) k hlt
              have HXX := Lib.hid hx
              have HLT := Lib.hid hlt
              have hk1 : (k : Int) < (l.length : Int) := by omega
              have hk2 : (k : Int) + 1 ≤ 2001 := by have := HLN.out; omega
              have hk0 : (0 : Int) ≤ (k : Int) := by omega
              have SX := Lib.hid (S3.out x)
              clear hx hp
              cases hs : speaksC m r x with
              | true =>
                have HFD := Lib.hid (find_at HXX.out HF.out hs)
                rw [hs] at SX
                clear hs
                go_wp2_with (go_at_call 36; refine (SX.out _ HX.out.below).mono ?_; rintro e w1 ⟨rfl, hb⟩; replace HX := Lib.hid (HX.out.later hb); clear hb p0 p1 q0 q1; have p0 := HX.out.p0; have p1 := HX.out.p1; have q0 := HX.out.q0; have q1 := HX.out.q1)
                go_ret2
                exact ⟨ChP.found HV.out HS1.out HS2.out HFD.out rfl, HX.out.below⟩
              | false =>
                have HFD := Lib.hid (find_next HXX.out HF.out hs)
                rw [hs] at SX
                clear hs
                go_wp2_with (go_at_call 36; refine (SX.out _ HX.out.below).mono ?_; rintro e w1 ⟨rfl, hb⟩; replace HX := Lib.hid (HX.out.later hb); clear hb p0 p1 q0 q1; have p0 := HX.out.p0; have p1 := HX.out.p1; have q0 := HX.out.q0; have q1 := HX.out.q1)
                go_roundw
                case rel => exact ⟨by trivial, by trivial, HX.out, k + 1, by go_num, HLT.out, HFD.out⟩
                case measure => simp [intOf]; have := HLT.out; omega
            · obtain rfl : k = l.length := by omega
              rw [List.take_length] at HF
              by_cases n4 : n = 4
              · have m4 : ¬ m = 4 := fun g => by rw [n4, g] at HNE; exact HNE.out rfl
                have HM4 := Lib.hid m4
                subst n4
                have g1 : ((m : Int) == 4) = false := beq_false_of_ne m4
                go_wp2_with fail
                go_ret2
                exact ⟨ChP.none4 HV.out HS1.out HS2.out HF.out (.inl rfl) rfl, HX.out.below⟩
              · by_cases m4 : m = 4
                · have g1 : ((n : Int) == 4) = false := beq_false_of_ne n4
                  subst m4
                  go_wp2_with fail
                  go_ret2
                  exact ⟨ChP.none4 HV.out HS1.out HS2.out HF.out (.inr rfl) rfl, HX.out.below⟩
                · have HN4 := Lib.hid (show ¬ (n = 4 ∨ m = 4) from fun g => g.elim n4 m4)
                  have g1 : ((n : Int) == 4) = false := beq_false_of_ne n4
                  have g2 : ((m : Int) == 4) = false := beq_false_of_ne m4
                  go_wp2_with fail
                  go_ret2
                  exact ⟨ChP.none3 HV.out HS1.out HS2.out HF.out HN4.out rfl, HX.out.below⟩

set_option maxRecDepth 100000 in
set_option maxHeartbeats 8000000 in
theorem rchoose_any (n m : Int) (a1 a2 : Option Addr) (c1 c2 : Nat) (l r : List Int) (w : World) (h1 : IntRow w a1 l) (h2 : IntRow w a2 r) (hc1 : l.length ≤ c1) (hc2 : r.length ≤ c2) (hl : l.length ≤ 2000) (hr : r.length ≤ 2000) :
    Calls Tryd.prog 17 #[.agg #[.int .i64 n, .slice a1 l.length c1], .agg #[.int .i64 m, .slice a2 r.length c2]] w fun e w' => ChP n l m r e ∧ Below w.heap.size w w' := by
  have H1 := Lib.hid h1
  have V1 := Lib.hid fun wx (hx : Below w.heap.size w wx) => rvalid_any n a1 c1 l wx (h1.below hx) hc1
  have V2 := Lib.hid fun wx (hx : Below w.heap.size w wx) => rvalid_any m a2 c2 r wx (h2.below hx) hc2
  have S1 := Lib.hid fun wx (hx : Below w.heap.size w wx) => rspeaks_any n m a1 c1 l wx (h1.below hx) hl
  have S2 := Lib.hid fun wx (hx : Below w.heap.size w wx) => rspeaks_any m n a2 c2 r wx (h2.below hx) hr
  have S3 := Lib.hid fun x wx (hx : Below w.heap.size w wx) => rspeaks_any m x a2 c2 r wx (h2.below hx) hr
  have HX := Lib.hid (BxI.start w n a1 l.length c1 m a2 r.length c2)
  have HLN := Lib.hid hl
  have p0 := True.intro
  have p1 := True.intro
  have q0 := True.intro
  have q1 := True.intro
  clear h1 h2 hc1 hc2 hl hr
  cases hv1 : validC n l with
  | false =>
    have HV : Hid ((validC n l && validC m r) = false) := Lib.hid (by rw [hv1]; rfl)
    rw [hv1] at V1
    clear hv1
    go_enter Tryd.func17, Tryd.ntmps17
    go_wp2_with (first
        | (go_at_call 22; refine (V1.out _ HX.out.below).mono ?_; rintro e w1 ⟨rfl, hb⟩; replace HX := Lib.hid (HX.out.later hb); clear hb p0 p1 q0 q1 V1; have p0 := HX.out.p0; have p1 := HX.out.p1; have q0 := HX.out.q0; have q1 := HX.out.q1)
        | (go_at_call 22; refine (V2.out _ HX.out.below).mono ?_; rintro e w1 ⟨rfl, hb⟩; replace HX := Lib.hid (HX.out.later hb); clear hb p0 p1 q0 q1; have p0 := HX.out.p0; have p1 := HX.out.p1; have q0 := HX.out.q0; have q1 := HX.out.q1)
        | (go_at_call 37; refine (S1.out _ HX.out.below).mono ?_; rintro e w1 ⟨rfl, hb⟩; replace HX := Lib.hid (HX.out.later hb); clear hb p0 p1 q0 q1 S1; have p0 := HX.out.p0; have p1 := HX.out.p1; have q0 := HX.out.q0; have q1 := HX.out.q1)
        | (go_at_call 37; refine (S2.out _ HX.out.below).mono ?_; rintro e w1 ⟨rfl, hb⟩; replace HX := Lib.hid (HX.out.later hb); clear hb p0 p1 q0 q1; have p0 := HX.out.p0; have p1 := HX.out.p1; have q0 := HX.out.q0; have q1 := HX.out.q1))
    go_ret2
    exact ⟨ChP.bad HV.out rfl, HX.out.below⟩
  | true =>
    cases hv2 : validC m r with
    | false =>
      have HV : Hid ((validC n l && validC m r) = false) := Lib.hid (by rw [hv2, Bool.and_false])
      rw [hv1] at V1
      rw [hv2] at V2
      clear hv1 hv2
      go_enter Tryd.func17, Tryd.ntmps17
      go_wp2_with (first
        | (go_at_call 22; refine (V1.out _ HX.out.below).mono ?_; rintro e w1 ⟨rfl, hb⟩; replace HX := Lib.hid (HX.out.later hb); clear hb p0 p1 q0 q1 V1; have p0 := HX.out.p0; have p1 := HX.out.p1; have q0 := HX.out.q0; have q1 := HX.out.q1)
        | (go_at_call 22; refine (V2.out _ HX.out.below).mono ?_; rintro e w1 ⟨rfl, hb⟩; replace HX := Lib.hid (HX.out.later hb); clear hb p0 p1 q0 q1; have p0 := HX.out.p0; have p1 := HX.out.p1; have q0 := HX.out.q0; have q1 := HX.out.q1)
        | (go_at_call 37; refine (S1.out _ HX.out.below).mono ?_; rintro e w1 ⟨rfl, hb⟩; replace HX := Lib.hid (HX.out.later hb); clear hb p0 p1 q0 q1 S1; have p0 := HX.out.p0; have p1 := HX.out.p1; have q0 := HX.out.q0; have q1 := HX.out.q1)
        | (go_at_call 37; refine (S2.out _ HX.out.below).mono ?_; rintro e w1 ⟨rfl, hb⟩; replace HX := Lib.hid (HX.out.later hb); clear hb p0 p1 q0 q1; have p0 := HX.out.p0; have p1 := HX.out.p1; have q0 := HX.out.q0; have q1 := HX.out.q1))
      go_ret2
      exact ⟨ChP.bad HV.out rfl, HX.out.below⟩
    | true =>
      have HV : Hid ((validC n l && validC m r) = true) := Lib.hid (by rw [hv1, hv2]; rfl)
      rw [hv1] at V1
      rw [hv2] at V2
      clear hv1 hv2
      cases hs1 : speaksC n l m with
      | true =>
        have HS1 := Lib.hid hs1
        rw [hs1] at S1
        clear hs1
        go_enter Tryd.func17, Tryd.ntmps17
        go_wp2_with (first
        | (go_at_call 22; refine (V1.out _ HX.out.below).mono ?_; rintro e w1 ⟨rfl, hb⟩; replace HX := Lib.hid (HX.out.later hb); clear hb p0 p1 q0 q1 V1; have p0 := HX.out.p0; have p1 := HX.out.p1; have q0 := HX.out.q0; have q1 := HX.out.q1)
        | (go_at_call 22; refine (V2.out _ HX.out.below).mono ?_; rintro e w1 ⟨rfl, hb⟩; replace HX := Lib.hid (HX.out.later hb); clear hb p0 p1 q0 q1; have p0 := HX.out.p0; have p1 := HX.out.p1; have q0 := HX.out.q0; have q1 := HX.out.q1)
        | (go_at_call 37; refine (S1.out _ HX.out.below).mono ?_; rintro e w1 ⟨rfl, hb⟩; replace HX := Lib.hid (HX.out.later hb); clear hb p0 p1 q0 q1 S1; have p0 := HX.out.p0; have p1 := HX.out.p1; have q0 := HX.out.q0; have q1 := HX.out.q1)
        | (go_at_call 37; refine (S2.out _ HX.out.below).mono ?_; rintro e w1 ⟨rfl, hb⟩; replace HX := Lib.hid (HX.out.later hb); clear hb p0 p1 q0 q1; have p0 := HX.out.p0; have p1 := HX.out.p1; have q0 := HX.out.q0; have q1 := HX.out.q1))
        go_ret2
        exact ⟨ChP.one HV.out HS1.out rfl, HX.out.below⟩
      | false =>
        have HS1 := Lib.hid hs1
        have HNE : Hid (¬ n = m) := Lib.hid fun g => by
          have := HS1.out
          unfold speaksC at this
          rw [decide_eq_true g] at this
          exact absurd this (by simp)
        rw [hs1] at S1
        clear hs1
        cases hs2 : speaksC m r n with
        | true =>
          have HS2 := Lib.hid hs2
          rw [hs2] at S2
          clear hs2
          go_enter Tryd.func17, Tryd.ntmps17
          go_wp2_with (first
        | (go_at_call 22; refine (V1.out _ HX.out.below).mono ?_; rintro e w1 ⟨rfl, hb⟩; replace HX := Lib.hid (HX.out.later hb); clear hb p0 p1 q0 q1 V1; have p0 := HX.out.p0; have p1 := HX.out.p1; have q0 := HX.out.q0; have q1 := HX.out.q1)
        | (go_at_call 22; refine (V2.out _ HX.out.below).mono ?_; rintro e w1 ⟨rfl, hb⟩; replace HX := Lib.hid (HX.out.later hb); clear hb p0 p1 q0 q1; have p0 := HX.out.p0; have p1 := HX.out.p1; have q0 := HX.out.q0; have q1 := HX.out.q1)
        | (go_at_call 37; refine (S1.out _ HX.out.below).mono ?_; rintro e w1 ⟨rfl, hb⟩; replace HX := Lib.hid (HX.out.later hb); clear hb p0 p1 q0 q1 S1; have p0 := HX.out.p0; have p1 := HX.out.p1; have q0 := HX.out.q0; have q1 := HX.out.q1)
        | (go_at_call 37; refine (S2.out _ HX.out.below).mono ?_; rintro e w1 ⟨rfl, hb⟩; replace HX := Lib.hid (HX.out.later hb); clear hb p0 p1 q0 q1; have p0 := HX.out.p0; have p1 := HX.out.p1; have q0 := HX.out.q0; have q1 := HX.out.q1))
          go_ret2
          exact ⟨ChP.two HV.out HS1.out HS2.out rfl, HX.out.below⟩
        | false =>
          have HS2 := Lib.hid hs2
          rw [hs2] at S2
          clear hs2
          go_enter Tryd.func17, Tryd.ntmps17
          go_wp2_with (first
        | (go_at_call 22; refine (V1.out _ HX.out.below).mono ?_; rintro e w1 ⟨rfl, hb⟩; replace HX := Lib.hid (HX.out.later hb); clear hb p0 p1 q0 q1 V1; have p0 := HX.out.p0; have p1 := HX.out.p1; have q0 := HX.out.q0; have q1 := HX.out.q1)
        | (go_at_call 22; refine (V2.out _ HX.out.below).mono ?_; rintro e w1 ⟨rfl, hb⟩; replace HX := Lib.hid (HX.out.later hb); clear hb p0 p1 q0 q1; have p0 := HX.out.p0; have p1 := HX.out.p1; have q0 := HX.out.q0; have q1 := HX.out.q1)
        | (go_at_call 37; refine (S1.out _ HX.out.below).mono ?_; rintro e w1 ⟨rfl, hb⟩; replace HX := Lib.hid (HX.out.later hb); clear hb p0 p1 q0 q1 S1; have p0 := HX.out.p0; have p1 := HX.out.p1; have q0 := HX.out.q0; have q1 := HX.out.q1)
        | (go_at_call 37; refine (S2.out _ HX.out.below).mono ?_; rintro e w1 ⟨rfl, hb⟩; replace HX := Lib.hid (HX.out.later hb); clear hb p0 p1 q0 q1; have p0 := HX.out.p0; have p1 := HX.out.p1; have q0 := HX.out.q0; have q1 := HX.out.q1))
          go_loopw [4, 5, 31] (fun x e i wr => x = .int .i64 0 ∧ e = .int .i64 0 ∧ BxI w n a1 l.length c1 m a2 r.length c2 wr ∧ ∃ k : Nat, i = .int .i64 k ∧ k ≤ l.length ∧ (l.take k).find? (speaksC m r) = none) (fun _ _ i _ => l.length - (intOf i).toNat)
          case atStart => exact ⟨rfl, rfl, HX.out, 0, rfl, Nat.zero_le _, rfl⟩
          case round =>
            clear p0 p1 q0 q1 HX
            obtain ⟨rfl, rfl, hx, k, rfl, hk, hno⟩ := hrel
            have p0 := hx.p0
            have p1 := hx.p1
            have q0 := hx.q0
            have q1 := hx.q1
            have HX := Lib.hid hx
            have HF := Lib.hid hno
            clear hx hno
            by_cases hlt : k < l.length
            · rcases H1.out with h0 | ⟨b, off, rfl, hb, hp⟩
              · subst h0; exact absurd hlt (by simp)
              obtain ⟨x, hx⟩ : ∃ x, l[k]? = some x := ⟨_, List.getElem?_eq_getElem hlt⟩
              have d0 : wr.cell? ⟨b, off + k, none⟩ = some (.int .i64 x) := by rw [List.getElem?_eq_getElem hlt] at hx; cases hx; exact (hp.below HX.out.below hb) k hlt
              have HXX := Lib.hid hx
              have HLT := Lib.hid hlt
              have hk1 : (k : Int) < (l.length : Int) := by omega
              have hk2 : (k : Int) + 1 ≤ 2001 := by have := HLN.out; omega
              have hk0 : (0 : Int) ≤ (k : Int) := by omega
              have SX := Lib.hid (S3.out x)
              clear hx hp
              cases hs : speaksC m r x with
              | true =>
                have HFD := Lib.hid (find_at HXX.out HF.out hs)
                rw [hs] at SX
                clear hs
                go_wp2_with (go_at_call 37; refine (SX.out _ HX.out.below).mono ?_; rintro e w1 ⟨rfl, hb⟩; replace HX := Lib.hid (HX.out.later hb); clear hb p0 p1 q0 q1; have p0 := HX.out.p0; have p1 := HX.out.p1; have q0 := HX.out.q0; have q1 := HX.out.q1)
                go_ret2
                exact ⟨ChP.found HV.out HS1.out HS2.out HFD.out rfl, HX.out.below⟩
              | false =>
                have HFD := Lib.hid (find_next HXX.out HF.out hs)
                rw [hs] at SX
                clear hs
                go_wp2_with (go_at_call 37; refine (SX.out _ HX.out.below).mono ?_; rintro e w1 ⟨rfl, hb⟩; replace HX := Lib.hid (HX.out.later hb); clear hb p0 p1 q0 q1; have p0 := HX.out.p0; have p1 := HX.out.p1; have q0 := HX.out.q0; have q1 := HX.out.q1)
                go_roundw
                case rel => exact ⟨by trivial, by trivial, HX.out, k + 1, by go_num, HLT.out, HFD.out⟩
                case measure => simp [intOf]; have := HLT.out; omega
            · obtain rfl : k = l.length := by omega
              rw [List.take_length] at HF
              by_cases n4 : n = 4
              · have m4 : ¬ m = 4 := fun g => by rw [n4, g] at HNE; exact HNE.out rfl
                have HM4 := Lib.hid m4
                subst n4
                have g1 : ((m : Int) == 4) = false := beq_false_of_ne m4
                go_wp2_with fail
                go_ret2
                exact ⟨ChP.none4 HV.out HS1.out HS2.out HF.out (.inl rfl) rfl, HX.out.below⟩
              · by_cases m4 : m = 4
                · have g1 : ((n : Int) == 4) = false := beq_false_of_ne n4
                  subst m4
                  go_wp2_with fail
                  go_ret2
                  exact ⟨ChP.none4 HV.out HS1.out HS2.out HF.out (.inr rfl) rfl, HX.out.below⟩
                · have HN4 := Lib.hid (show ¬ (n = 4 ∨ m = 4) from fun g => g.elim n4 m4)
                  have g1 : ((n : Int) == 4) = false := beq_false_of_ne n4
                  have g2 : ((m : Int) == 4) = false := beq_false_of_ne m4
                  go_wp2_with fail
                  go_ret2
                  exact ⟨ChP.none3 HV.out HS1.out HS2.out HF.out HN4.out rfl, HX.out.below⟩

end Go.Proofs.YtnebjdjebnphnaaDoor
