/- The contract of policy.Of. -/
import Derived.Test.YtladjkkkhomngaaDoorSa
import Derived.Test.YtladjkkkhomngaaDoorSc
import Derived.Test.YtladjkkkhomngaaDoorSf
import Derived.Test.YtladjkkkhomngaaDoorSd
import Derived.Shelf.SlSortCmp.NoneTotal
namespace Go.Proofs.YtladjkkkhomngaaDoor
set_option maxRecDepth 8000
open Go.RowKit Go.Sort Go.BigFrame

theorem of_none : ofL [] = [] ∧ ofE [] = 0 := by
  have h : gthTo [] 13 = [] := gth_eq (l := []) (m := []) (okS_true (okTo_zero [])) fun k => rfl
  have := of_good (l := []) ⟨Nat.zero_le _, rfl⟩ (by rw [h])
  exact ⟨this.1.trans h, this.2⟩
theorem allV_kind {l : List PolD} (h : allV l = true) : ∀ p ∈ l, isK p.k = true := fun p hp => by
  have := allV_at h p hp
  simp only [okP, Bool.and_eq_true] at this
  exact this.1.1

theorem sort_none (fv : Value) (w : World) : Calls Tryd.prog 36 #[.slice none 0 0, fv] w fun e w' => e = .returned (.tuple #[]) ∧ w' = w := by
  have h := AnyF.slices_SortFunc_none Tryd.sortPol none 0 fv w
  exact h

/-- Clone, then SortFunc: what is known before and behind. -/
theorem sort_cloned (l : List PolD) (hv : allV l = true) (w : World) (sv : Value) (w1 : World) (hl : l.length ≤ 1000) (hn : sv ≠ .slice none 0 0) (ho : w1.ownsRow w.heap.size 24 2 sv l.length (polCells l)) :
    ∃ b c, sv = .slice (some ⟨b, 0, none⟩) l.length c ∧ l.length ≤ c ∧ Calls Tryd.prog 36 #[.slice (some ⟨b, 0, none⟩) l.length c, .func (.func 37) #[] #[]] w1 fun e w' => e = .returned (.tuple #[]) ∧ ∃ s : List PolD, s.length = l.length ∧ ((okS s = true ∧ gthTo l 13 = s ∧ (gthTo l 13).length = l.length) ∨ (okS s = false ∧ (gthTo l 13).length ≠ l.length)) ∧ RowAt w' (some ⟨b, 0, none⟩) s ∧ (Below w.heap.size w w1 → Below w.heap.size w w') := by
  rcases ho.2 with ⟨h1, _⟩ | ⟨g, cap, cur, h1, hb, hg, hc, _⟩
  · exact absurd h1 hn
  · subst h1
    have hlt : g < w1.heap.size := (Array.getElem?_eq_some_iff.1 hg).1
    have hp : PolsAt w1 g 0 l := by
      rcases l with _ | ⟨p, r⟩
      · exact fun i hi => absurd hi (Nat.not_lt_zero i)
      · obtain ⟨ao, cap', e, hr⟩ := row_of_own ho
        simp only [Value.slice.injEq] at e
        obtain ⟨rfl, _, rfl⟩ := e
        rcases hr with h0 | ⟨b, off, h1, _, h2⟩
        · cases h0
        · simp only [Option.some.injEq, Addr.mk.injEq] at h1
          obtain ⟨rfl, rfl, _⟩ := h1
          exact h2
    refine ⟨g, cap, rfl, hc, (sort_any l (allV_kind hv) g cap w1 hp (fun o => by simp [World.frozen?, hg]) hlt (by omega)).mono ?_⟩
    rintro e w' ⟨rfl, s, hpm, hso, hps, hlt', hbel⟩
    exact ⟨rfl, s, hpm.length_eq, of_math (allV_at hv) hpm hso, .inr ⟨g, 0, rfl, hlt', hps⟩, fun h => hbel _ _ hb h⟩

set_option maxRecDepth 100000 in
set_option maxHeartbeats 2000000 in
theorem of_any (d : SlD) (w : World) (hS : SortsAt w) (h : d.Ok w) (hl : d.l.length ≤ 200) :
    Calls Tryd.prog 7 #[.slice d.a d.l.length d.c] w (RowPost w (ofL d.l) (ofE d.l)) := by
  have AB := Lib.hid (anyBad_any d.a d.c d.l w hS h.row (by omega))
  by_cases h100 : d.l.length ≤ 100
  · have n100 : ¬ (100 : Int) < (d.l.length : Int) := by omega
    have d100 : decide ((100 : Int) < (d.l.length : Int)) = false := by simp; omega
    cases hv : allV d.l
    · rw [hv] at AB
      have HF := Lib.hid (of_bad (l := d.l) (by rw [hv]; simp))
      clear hS h hl h100 hv
      go_enter Tryd.func7, Tryd.ntmps7
      go_wp2_with (go_at_call 33; refine AB.out.mono ?_; rintro e w1 ⟨rfl, hb1⟩; have B1 := Lib.hid hb1; clear hb1)
      go_ret2
      exact RowPost.nil HF.out.1 (by first | (rw [HF.out.2]; done) | (rw [HF.out.2]; rfl)) B1.out
    · rw [hv] at AB
      have HC := Lib.hid (show d.l.length ≤ 100 ∧ allV d.l = true from ⟨h100, hv⟩)
      have HS := Lib.hid hS
      obtain ⟨a, l, c⟩ := d
      cases a with
      | none =>
        obtain ⟨e1, e2⟩ := h.bare rfl
        simp only at e1 e2
        subst e1 e2
        have VS := Lib.hid fun wx (hx : Below w.heap.size w wx) => validSet_any none 0 [] wx (hS.below hx hS.pos) (.inl rfl) (by simp)
        rw [show okS [] = true from okS_true (okTo_zero [])] at VS
        clear hS h hl h100 hv
        simp only [List.length_nil] at *
        go_enter Tryd.func7, Tryd.ntmps7
        go_wp2_with (first | (go_at_call 33; refine AB.out.mono ?_; rintro e w1 ⟨rfl, hb1⟩; have B1 := Lib.hid hb1; clear hb1) | (go_at_call 35; refine (clone_nil _).mono ?_; rintro e w2 ⟨rfl, rfl⟩) | (go_at_call 36; refine (sort_none _ _).mono ?_; rintro e w3 ⟨rfl, rfl⟩) | (go_at_call 13; refine (VS.out _ B1.out).mono ?_; rintro e w4 ⟨rfl, hb4⟩; have B4 := Lib.hid (B1.out.trans (hb4.mono B1.out.size)); clear hb4))
        go_ret2
        exact RowPost.nil of_none.1 (by rw [of_none.2]; rfl) B4.out
      | some ad =>
        have CL := Lib.hid fun wx (hx : Below w.heap.size w wx) => clone_some ad l c wx (h.below hx) (by (try simp only at hl); omega)
        clear hS h hl h100 hv
        go_enter Tryd.func7, Tryd.ntmps7
        go_wp2_with (go_at_call 33; refine AB.out.mono ?_; rintro e w1 ⟨rfl, hb1⟩; have B1 := Lib.hid hb1; clear hb1)
        refine (CL.out _ B1.out).mono ?_
        rintro e w2 ⟨sv, rfl, hn2, ho2, hb2⟩
        obtain ⟨b, c2, rfl, hc2, hsort⟩ := sort_cloned l HC.out.2 w1 sv w2 (by have := HC.out.1; (try simp only at this); omega) hn2 ho2
        have SO := Lib.hid hsort
        have C2 := Lib.hid hc2
        have B2 := Lib.hid hb2
        clear hn2 ho2 hb2 hsort hc2
        go_wp2_with fail
        refine SO.out.mono ?_
        rintro e w3 ⟨rfl, s, hsl, hcase, hrow, hbel⟩
        have HSL := Lib.hid hsl
        have HCA := Lib.hid hcase
        have HRO := Lib.hid hrow
        have B3 := Lib.hid (B1.out.trans ((hbel B2.out).mono B1.out.size))
        have VS := Lib.hid (validSet_any (some ⟨b, 0, none⟩) c2 s w3 (HS.out.below B3.out HS.out.pos) hrow (by have := HC.out.1; (try simp only at this); omega))
        rw [hsl] at VS
        obtain ⟨r, hr⟩ : ∃ r, okS s = r := ⟨_, rfl⟩
        rw [hr] at VS
        have HR := Lib.hid hr
        clear hsl hcase hrow hbel hr
        cases r
        · have HF : Hid (ofL l = [] ∧ ofE l = 6) := Lib.hid (by
            rcases HCA.out with h1 | h1
            · rw [HR.out] at h1; cases h1.1
            · exact of_dup HC.out h1.2)
          go_wp2_with (go_at_call 13; refine VS.out.mono ?_; rintro e w4 ⟨rfl, hb4⟩; have B4 := Lib.hid (B3.out.trans (hb4.mono B3.out.size)); clear hb4)
          go_ret2
          exact RowPost.nil HF.out.1 (by first | (rw [HF.out.2]; done) | (rw [HF.out.2]; rfl)) B4.out
        · have HF : Hid (ofL l = s ∧ ofE l = 0) := Lib.hid (by
            rcases HCA.out with h1 | h1
            · have := of_good HC.out h1.2.2
              exact ⟨this.1.trans h1.2.1, this.2⟩
            · rw [HR.out] at h1; cases h1.1)
          go_wp2_with (go_at_call 13; refine VS.out.mono ?_; rintro e w4 ⟨rfl, hb4⟩; have B4 := Lib.hid (B3.out.trans (hb4.mono B3.out.size)); have N4 := Lib.hid hb4; clear hb4)
          go_ret2
          exact ⟨⟨some ⟨b, 0, none⟩, s, c2⟩, HF.out.1.symm, by rw [HF.out.2]; unfold SlD.v; rw [show (⟨some ⟨b, 0, none⟩, s, c2⟩ : SlD).l.length = l.length from HSL.out]; rfl, ⟨by have := HSL.out; have := C2.out; simp only; omega, HRO.out.below N4.out, fun h => by cases h⟩, B4.out⟩
  · have n100 : (100 : Int) < (d.l.length : Int) := by omega
    have d100 : decide ((100 : Int) < (d.l.length : Int)) = true := by simp; omega
    have HF := Lib.hid (of_bad (l := d.l) (fun g => h100 g.1))
    clear hS h hl h100
    go_enter Tryd.func7, Tryd.ntmps7
    go_wp2_with fail
    go_ret2
    exact RowPost.nil HF.out.1 (by first | (rw [HF.out.2]; done) | (rw [HF.out.2]; rfl)) (Below.refl _ _)

end Go.Proofs.YtladjkkkhomngaaDoor
