/- The contracts of Of's closure !Valid, and of slices.IndexFunc and ContainsFunc with it. -/
import Derived.Test.YtladjkkkhomngaaDoorR
namespace Go.Proofs.YtladjkkkhomngaaDoor
set_option maxRecDepth 8000
open Go.RowKit Go.Sort Go.BigFrame

/-- Are all of them valid? -/
def allV (l : List PolD) : Bool := l.all fun p => okP p.k p.v
theorem allV_at {l : List PolD} (h : allV l = true) : ∀ p ∈ l, okP p.k p.v = true := List.all_eq_true.1 h
theorem allV_bad {l : List PolD} {i : Nat} (h : i < l.length) (hb : okP l[i].k l[i].v = false) : allV l = false := by
  cases ha : allV l with
  | false => rfl
  | true =>
    have := allV_at ha _ (List.getElem_mem h)
    rw [hb] at this
    cases this
def valTo (l : List PolD) (n : Nat) : Prop := ∀ i, i < n → ∀ h : i < l.length, okP l[i].k l[i].v = true
theorem allV_all {l : List PolD} (h : valTo l l.length) : allV l = true := List.all_eq_true.2 fun d hd => by
  obtain ⟨i, hi, rfl⟩ := List.getElem_of_mem hd
  exact h i hi hi

set_option maxRecDepth 100000 in
set_option maxHeartbeats 1000000 in
theorem ofBad_any (k v : Int) (w : World) (hS : SortsAt w) :
    Calls Tryd.prog 34 #[.agg #[.int .i64 k, .int .i64 v]] w fun e w' => e = .returned (.bool (!okP k v)) ∧ Below w.heap.size w w' := by
  have hb : Below w.heap.size w (w.alloc (polO k v)) := (Below.refl _ _).alloc (Nat.le_refl _) _
  have HB := Lib.hid hb
  have VA := Lib.hid fun wx (hx : Below w.heap.size w wx) => valid_any k v wx (hS.below hx hS.pos)
  have n0 := polO_c0 k v w
  have n1 := polO_c1 k v w
  obtain ⟨r, hr⟩ : ∃ r, okP k v = r := ⟨_, rfl⟩
  rw [hr] at VA
  rw [hr]
  clear hS hb hr
  go_enter Tryd.func34, Tryd.ntmps34
  cases r
  · go_wp2_with (go_at_call 11; first | (refine (VA.out _ HB.out).mono ?_; rintro e w2 ⟨rfl, hb2⟩; have B2 := Lib.hid (HB.out.trans (hb2.mono HB.out.size)); clear hb2) | (refine (VA.out _ (Below.refl _ _)).mono ?_; rintro e w2 ⟨rfl, hb2⟩; have B2 := Lib.hid hb2; clear hb2))
    go_ret
    exact ⟨rfl, B2.out⟩
  · go_wp2_with (go_at_call 11; first | (refine (VA.out _ HB.out).mono ?_; rintro e w2 ⟨rfl, hb2⟩; have B2 := Lib.hid (HB.out.trans (hb2.mono HB.out.size)); clear hb2) | (refine (VA.out _ (Below.refl _ _)).mono ?_; rintro e w2 ⟨rfl, hb2⟩; have B2 := Lib.hid hb2; clear hb2))
    go_ret
    exact ⟨rfl, B2.out⟩

set_option maxRecDepth 100000 in
set_option maxHeartbeats 1000000 in
theorem indexBad_any (ao : Option Addr) (cap : Nat) (l : List PolD) (w : World) (hS : SortsAt w) (h : RowAt w ao l) (hl : l.length ≤ 1000000) :
    Calls Tryd.prog 65 #[.slice ao l.length cap, .func (.func 34) #[] #[]] w fun e w' => ∃ k : Int, e = .returned (.int .i64 k) ∧ decide (0 ≤ k) = !allV l ∧ Below w.heap.size w w' := by
  have HS := Lib.hid hS
  have HR := Lib.hid h
  have HL := Lib.hid hl
  clear hS h hl
  go_enter Tryd.func65, Tryd.ntmps65
  go_wp2_with fail
  go_loopw [8] (fun i wr => ∃ k : Nat, i = .int .i64 k ∧ k ≤ l.length ∧ valTo l k ∧ Below w.heap.size w wr) (fun i _ => l.length - (intOf i).toNat)
  case atStart => exact ⟨0, rfl, Nat.zero_le _, fun i h => absurd h (Nat.not_lt_zero i), Below.refl _ _⟩
  case round =>
    obtain ⟨k, rfl, hk, hok, hbel⟩ := hrel
    have HB := Lib.hid hbel
    have HK := Lib.hid hok
    clear hbel hok
    by_cases hlt : k < l.length
    · rcases HR.out with h0 | ⟨b, off, rfl, hb, hp⟩
      · subst h0; exact absurd hlt (by simp)
      obtain ⟨c0, c1⟩ := (hp.below HB.out hb) k hlt
      obtain ⟨kk, hkk⟩ : ∃ kk, l[k].k = kk := ⟨_, rfl⟩
      obtain ⟨vv, hvv⟩ : ∃ vv, l[k].v = vv := ⟨_, rfl⟩
      rw [hkk] at c0
      rw [hvv] at c1
      have HKK := Lib.hid hkk
      have HVV := Lib.hid hvv
      have CC := Lib.hid (ofBad_any kk vv wr (HS.out.below HB.out HS.out.pos))
      obtain ⟨r, hr⟩ : ∃ r, okP kk vv = r := ⟨_, rfl⟩
      rw [hr] at CC
      have HRR := Lib.hid hr
      have hk1 : (k : Int) < (l.length : Int) := by omega
      have hk2 : (k : Int) + 1 ≤ 9223372036854775807 := by have := HL.out; omega
      have hk0 : (0 : Int) ≤ (k : Int) := by omega
      clear hkk hvv hr hp
      cases r
      · go_wp2_with (go_at_call 34; refine CC.out.mono ?_; rintro e w2 ⟨rfl, hb2⟩; have B2 := Lib.hid (HB.out.trans (hb2.mono HB.out.size)); clear hb2)
        go_ret
        exact ⟨k, rfl, by rw [allV_bad hlt (by rw [HKK.out, HVV.out]; exact HRR.out)]; simp, B2.out⟩
      · go_wp2_with (go_at_call 34; refine CC.out.mono ?_; rintro e w2 ⟨rfl, hb2⟩; have B2 := Lib.hid (HB.out.trans (hb2.mono HB.out.size)); clear hb2)
        refine ⟨⟨k + 1, by go_num, hlt, fun i hi h => ?_, B2.out⟩, by simp [intOf]; omega⟩
        by_cases e : i = k
        · subst e; rw [HKK.out, HVV.out]; exact HRR.out
        · exact HK.out i (by omega) h
    · obtain rfl : k = l.length := by omega
      have HA : Hid (allV l = true) := Lib.hid (allV_all HK.out)
      go_wp2_with fail
      go_ret
      exact ⟨-1, rfl, by rw [HA.out]; rfl, HB.out⟩

set_option maxHeartbeats 1000000 in
theorem anyBad_any (ao : Option Addr) (cap : Nat) (l : List PolD) (w : World) (hS : SortsAt w) (h : RowAt w ao l) (hl : l.length ≤ 1000000) :
    Calls Tryd.prog 33 #[.slice ao l.length cap, .func (.func 34) #[] #[]] w fun e w' => e = .returned (.bool (!allV l)) ∧ Below w.heap.size w w' := by
  have IX := Lib.hid (indexBad_any ao cap l w hS h hl)
  clear hS h hl
  go_enter Tryd.func33, Tryd.ntmps33
  go_wp2_with (go_at_call 65; refine IX.out.mono ?_; rintro e w1 ⟨k, rfl, hk, hb1⟩; have B1 := Lib.hid hb1; have HK := Lib.hid hk; clear hb1 hk)
  go_ret
  exact ⟨ret_bool HK.out, B1.out⟩

end Go.Proofs.YtladjkkkhomngaaDoor
