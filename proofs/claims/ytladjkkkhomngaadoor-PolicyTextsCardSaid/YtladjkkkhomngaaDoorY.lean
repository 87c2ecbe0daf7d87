/- What both Agree leave; the contract of the reference's Agree where it refuses. -/
import Derived.Test.YtladjkkkhomngaaDoorX
namespace Go.Proofs.YtladjkkkhomngaaDoor
set_option maxRecDepth 8000
open Go.RowKit Go.Sort Go.BigFrame

/-- Which way Agree goes: 0: a row is no set, 1: the route does not fit, 2: what is agreed clashes, 3: it agrees. -/
noncomputable def agC (c s : List PolD) : Nat :=
  if okS c = true ∧ okS s = true then (if valOf s 11 < valOf c 11 then 1 else (if clTo (agL c s 6) 7 = [] then 3 else 2)) else 0
/-- The policies with which a call is made. -/
noncomputable def agS (c s : List PolD) : List PolD := if agC c s = 3 then keptTo (agL c s 6) 6 else []
/-- The kind that does not fit. -/
noncomputable def agK (c s : List PolD) : Int := if agC c s = 1 then 11 else if agC c s = 2 then ((clTo (agL c s 6) 7).headD (0, 0)).1 else 0
/-- The error. -/
noncomputable def agE (c s : List PolD) : Int := if agC c s = 0 then 1 else if agC c s = 3 then 0 else 9

/-- What both Agree leave. -/
def AgreePost (w : World) (c s : List PolD) (e : Ending) (w' : World) : Prop :=
  ∃ ao cap, e = .returned (.tuple #[.slice ao (agS c s).length cap, .int .i64 (agK c s), .int .i64 (agE c s)]) ∧ RowAt w' ao (agS c s) ∧ Below w.heap.size w w'

theorem agreePost_bad {w w' : World} {c s : List PolD} {e : Ending} (h : ¬ (okS c = true ∧ okS s = true)) (he : e = .returned (.tuple #[.slice none 0 0, .int .i64 0, .int .i64 1])) (hb : Below w.heap.size w w') : AgreePost w c s e w' := by
  have h0 : agC c s = 0 := by unfold agC; rw [if_neg h]
  have h1 : agS c s = [] := by unfold agS; rw [if_neg (by omega)]
  have h2 : agK c s = 0 := by unfold agK; rw [if_neg (by omega), if_neg (by omega)]
  have h3 : agE c s = 1 := by unfold agE; rw [if_pos h0]
  unfold AgreePost
  rw [h1, h2, h3]
  exact ⟨none, 0, he, .inl rfl, hb⟩
theorem agreePost_route {w w' : World} {c s : List PolD} {e : Ending} (k1 : okS c = true) (k2 : okS s = true) (k3 : valOf s 11 < valOf c 11) (he : e = .returned (.tuple #[.slice none 0 0, .int .i64 11, .int .i64 9])) (hb : Below w.heap.size w w') : AgreePost w c s e w' := by
  have h0 : agC c s = 1 := by unfold agC; rw [if_pos ⟨k1, k2⟩, if_pos k3]
  have h1 : agS c s = [] := by unfold agS; rw [if_neg (by omega)]
  have h2 : agK c s = 11 := by unfold agK; rw [if_pos h0]
  have h3 : agE c s = 9 := by unfold agE; rw [if_neg (by omega), if_neg (by omega)]
  unfold AgreePost
  rw [h1, h2, h3]
  exact ⟨none, 0, he, .inl rfl, hb⟩
theorem agreePost_clash {w w' : World} {c s : List PolD} {e : Ending} {p : Int × Int} {rest : List (Int × Int)} (k1 : okS c = true) (k2 : okS s = true) (k3 : ¬ valOf s 11 < valOf c 11) (hc : clTo (agL c s 6) 7 = p :: rest) (he : e = .returned (.tuple #[.slice none 0 0, .int .i64 p.1, .int .i64 9])) (hb : Below w.heap.size w w') : AgreePost w c s e w' := by
  have h0 : agC c s = 2 := by unfold agC; rw [if_pos ⟨k1, k2⟩, if_neg k3, if_neg (by rw [hc]; exact List.cons_ne_nil _ _)]
  have h1 : agS c s = [] := by unfold agS; rw [if_neg (by omega)]
  have h2 : agK c s = p.1 := by unfold agK; rw [if_neg (by omega), if_pos h0, hc]; rfl
  have h3 : agE c s = 9 := by unfold agE; rw [if_neg (by omega), if_neg (by omega)]
  unfold AgreePost
  rw [h1, h2, h3]
  exact ⟨none, 0, he, .inl rfl, hb⟩
theorem agreePost_go {w w' : World} {c s : List PolD} {e : Ending} {sv : Value} {base : Nat} (k1 : okS c = true) (k2 : okS s = true) (k3 : ¬ valOf s 11 < valOf c 11) (hc : clTo (agL c s 6) 7 = []) (he : e = .returned (.tuple #[sv, .int .i64 0, .int .i64 0])) (ho : w'.ownsRow base 24 2 sv (keptTo (agL c s 6) 6).length (polCells (keptTo (agL c s 6) 6))) (hb : Below w.heap.size w w') : AgreePost w c s e w' := by
  have h0 : agC c s = 3 := by unfold agC; rw [if_pos ⟨k1, k2⟩, if_neg k3, if_pos hc]
  have h1 : agS c s = keptTo (agL c s 6) 6 := by unfold agS; rw [if_pos h0]
  have h2 : agK c s = 0 := by unfold agK; rw [if_neg (by omega), if_neg (by omega)]
  have h3 : agE c s = 0 := by unfold agE; rw [if_neg (by omega), if_pos h0]
  obtain ⟨ao, cap, rfl, hr⟩ := row_of_own ho
  unfold AgreePost
  rw [h1, h2, h3]
  exact ⟨ao, cap, he, hr, hb⟩

/-- policy.Agree, for all rows. -/
theorem agree_all (ao1 ao2 : Option Addr) (cap1 cap2 : Nat) (c s : List PolD) (w : World) (hS : SortsAt w) (h1 : RowAt w ao1 c) (h2 : RowAt w ao2 s) (hl1 : c.length ≤ 1000000) (hl2 : s.length ≤ 1000000) :
    Calls Tryd.prog 32 #[.slice ao1 c.length cap1, .slice ao2 s.length cap2] w (AgreePost w c s) := by
  cases k1 : okS c
  · exact (agree_bad1 ao1 ao2 cap1 cap2 c s w hS h1 (by omega) k1).mono fun e w' ⟨he, hb⟩ => agreePost_bad (by rw [k1]; intro h; cases h.1) he hb
  · cases k2 : okS s
    · exact (agree_bad2 ao1 ao2 cap1 cap2 c s w hS h1 h2 (by omega) (by omega) k1 k2).mono fun e w' ⟨he, hb⟩ => agreePost_bad (by rw [k2]; intro h; cases h.2) he hb
    · by_cases k3 : valOf s 11 < valOf c 11
      · exact (agree_route ao1 ao2 cap1 cap2 c s w hS h1 h2 (by omega) (by omega) k1 k2 k3).mono fun e w' ⟨he, hb⟩ => agreePost_route k1 k2 k3 he hb
      · cases hc : clTo (agL c s 6) 7 with
        | nil => exact (agree_go ao1 ao2 cap1 cap2 c s w hS h1 h2 (by omega) (by omega) k1 k2 k3 (kept_okS k1 k2) (by rw [clTo_kept]; exact hc)).mono fun e w' ⟨sv, he, ho, hb⟩ => agreePost_go k1 k2 k3 hc he ho hb
        | cons p rest => exact (agree_clash ao1 ao2 cap1 cap2 c s w hS h1 h2 (by omega) (by omega) k1 k2 k3 (kept_okS k1 k2) p rest (by rw [clTo_kept]; exact hc) (clTo_first hc)).mono fun e w' ⟨he, hb⟩ => agreePost_clash k1 k2 k3 hc he hb

/-- Two rows in a later world. -/
structure TwoR (w wx : World) (a : Option Addr) (C : List PolD) (b : Option Addr) (S : List PolD) : Prop where
  below : Below w.heap.size w wx
  r1 : RowAt wx a C
  r2 : RowAt wx b S
theorem TwoR.later {w wr wx : World} {a b : Option Addr} {C S : List PolD} (h : TwoR w wr a C b S) (hb : Below wr.heap.size wr wx) : TwoR w wx a C b S :=
  ⟨h.below.trans (hb.mono h.below.size), h.r1.below hb, h.r2.below hb⟩

end Go.Proofs.YtladjkkkhomngaaDoor
