/- What stands in a row of policies under a kind; the contracts of policy.get and of the reference's value and has. -/
import Derived.Test.YtladjkkkhomngaaDoorD
namespace Go.Proofs.YtladjkkkhomngaaDoor
open Go.RowKit Go.Sort Go.BigFrame

/-- The value of the first policy of a kind. -/
def findK : List PolD → Int → Option Int
  | [], _ => none
  | p :: r, k => if p.k = k then some p.v else findK r k
/-- The value of a kind in a row, or its default. -/
def valOf (l : List PolD) (k : Int) : Int := (findK l k).getD (defV k)
/-- Is a kind in a row? -/
def hasOf (l : List PolD) (k : Int) : Bool := (findK l k).isSome

theorem findK_at : ∀ (l : List PolD) (k : Int) (n : Nat) (hn : n < l.length), (∀ i, i < n → ∀ h : i < l.length, ¬ l[i].k = k) → l[n].k = k → findK l k = some l[n].v
  | [], _, n, hn, _, _ => absurd hn (Nat.not_lt_zero n)
  | p :: r, k, 0, _, _, h => by
    simp only [List.getElem_cons_zero] at h ⊢
    unfold findK
    rw [if_pos h]
  | p :: r, k, n + 1, hn, hb, h => by
    have h0 := hb 0 (by omega) (by simp)
    simp only [List.getElem_cons_zero] at h0
    simp only [List.getElem_cons_succ] at h ⊢
    unfold findK
    rw [if_neg h0]
    exact findK_at r k n (by simpa using hn) (fun i hi hl => by have := hb (i + 1) (by omega) (by simpa using hl); simpa using this) h
theorem findK_none : ∀ (l : List PolD) (k : Int), (∀ i, ∀ h : i < l.length, ¬ l[i].k = k) → findK l k = none
  | [], _, _ => rfl
  | p :: r, k, hb => by
    have h0 := hb 0 (by simp)
    simp only [List.getElem_cons_zero] at h0
    unfold findK
    rw [if_neg h0]
    exact findK_none r k fun i hl => by have := hb (i + 1) (by simpa using hl); simpa using this

/-- No policy among the first n is of a kind. -/
def noK (l : List PolD) (k : Int) (n : Nat) : Prop := ∀ i, i < n → ∀ h : i < l.length, ¬ l[i].k = k
theorem noK.succ {l : List PolD} {k : Int} {n : Nat} (h : noK l k n) (hn : n < l.length) (h1 : ¬ l[n].k = k) : noK l k (n + 1) := fun i hi hl => by
  by_cases he : i = n
  · subst he; exact h1
  · exact h i (by omega) hl

theorem ret_pair {a c : Int} {b d : Bool} (h : a = c) (k : b = d) : Ending.returned (.tuple #[.int .i64 a, .bool b]) = .returned (.tuple #[.int .i64 c, .bool d]) := by rw [h, k]

set_option maxRecDepth 100000 in
set_option maxHeartbeats 1000000 in
theorem get_any (ao : Option Addr) (cap : Nat) (l : List PolD) (q : Int) (w : World) (hS : SortsAt w) (hK : isK q = true) (h : RowAt w ao l) (hl : l.length ≤ 9223372036854775807) :
    Calls Tryd.prog 40 #[.slice ao l.length cap, .int .i64 q] w fun e w' => e = .returned (.tuple #[.int .i64 (valOf l q), .bool (hasOf l q)]) ∧ Below w.heap.size w w' := by
  have HR := Lib.hid h
  have HL := Lib.hid hl
  clear h hl
  have HS := Lib.hid hS
  have HKQ := Lib.hid hK
  clear hS hK
  go_enter Tryd.func40, Tryd.ntmps40
  go_wp2_with fail
  go_loopw [10] (fun i wr => ∃ k : Nat, i = .int .i64 k ∧ noK l q k ∧ k ≤ l.length ∧ Below w.heap.size w wr) (fun i _ => l.length - (intOf i).toNat)
  case atStart => exact ⟨0, rfl, fun i hi => absurd hi (Nat.not_lt_zero i), Nat.zero_le _, Below.refl _ _⟩
  case round =>
    obtain ⟨k, rfl, hok, hk, hbel⟩ := hrel
    have HK := Lib.hid hok
    have HB := Lib.hid hbel
    clear hok hbel
    by_cases hlt : k < l.length
    · rcases HR.out with h0 | ⟨b, off, rfl, hb, hp⟩
      · subst h0; exact absurd hlt (by simp)
      obtain ⟨c0, c1⟩ := (hp.below HB.out hb) k hlt
      obtain ⟨kk, hkk⟩ : ∃ kk, l[k].k = kk := ⟨_, rfl⟩
      obtain ⟨vv, hvv⟩ : ∃ vv, l[k].v = vv := ⟨_, rfl⟩
      rw [hkk] at c0
      rw [hvv] at c1
      have HKK := Lib.hid hkk
      have HVV := Lib.hid hvv
      have HB1 : Hid (Below w.heap.size w (wr.alloc (polO kk vv))) := Lib.hid (HB.out.alloc HB.out.size _)
      have hk1 : (k : Int) < (l.length : Int) := by omega
      have hk2 : (k : Int) + 1 ≤ 9223372036854775807 := by have := HL.out; omega
      clear hkk hvv hp
      by_cases hq : kk = q
      · have HF : Hid (findK l q = some vv) := Lib.hid (by rw [← HVV.out]; exact findK_at l q k hlt HK.out (HKK.out.trans hq))
        have hq2 : (kk == q) = true := by simpa using hq
        have hq3 : decide (kk = q) = true := by simpa using hq
        clear hq
        go_wp2_with fail
        go_ret2
        exact ⟨ret_pair (by simp [valOf, HF.out]) (by simp [hasOf, HF.out]), HB1.out⟩
      · have HN : Hid (noK l q (k + 1)) := Lib.hid (HK.out.succ hlt (fun e => hq (HKK.out.symm.trans e)))
        have hq2 : (kk == q) = false := by simpa using hq
        have hq3 : decide (kk = q) = false := by simpa using hq
        clear hq
        go_wp2_with fail
        exact ⟨⟨k + 1, by go_num, HN.out, hlt, HB1.out⟩, by simp [intOf]; omega⟩
    · obtain rfl : k = l.length := by omega
      have HF : Hid (findK l q = none) := Lib.hid (findK_none l q (fun i h => HK.out i h h))
      have ID := Lib.hid fun wx (hx : Below w.heap.size w wx) => byDefault_any q wx (HS.out.below hx HS.out.pos) HKQ.out
      go_wp2_with (go_at_call 43; refine (ID.out _ HB.out).mono ?_; rintro e w5 ⟨rfl, rfl⟩)
      go_ret2
      exact ⟨ret_pair (by simp [valOf, HF.out]) (by simp [hasOf, HF.out]), HB.out⟩

set_option maxRecDepth 100000 in
set_option maxHeartbeats 1000000 in
theorem value_any (ao : Option Addr) (cap : Nat) (l : List PolD) (q : Int) (w : World) (h : RowAt w ao l) (hl : l.length ≤ 9223372036854775807) :
    Calls Tryd.prog 42 #[.slice ao l.length cap, .int .i64 q] w fun e w' => e = .returned (.int .i64 (valOf l q)) ∧ Below w.heap.size w w' := by
  have HR := Lib.hid h
  have HL := Lib.hid hl
  clear h hl
  go_enter Tryd.func42, Tryd.ntmps42
  go_wp2_with fail
  go_loopw [9] (fun i wr => ∃ k : Nat, i = .int .i64 k ∧ noK l q k ∧ k ≤ l.length ∧ Below w.heap.size w wr) (fun i _ => l.length - (intOf i).toNat)
  case atStart => exact ⟨0, rfl, fun i hi => absurd hi (Nat.not_lt_zero i), Nat.zero_le _, Below.refl _ _⟩
  case round =>
    obtain ⟨k, rfl, hok, hk, hbel⟩ := hrel
    have HK := Lib.hid hok
    have HB := Lib.hid hbel
    clear hok hbel
    by_cases hlt : k < l.length
    · rcases HR.out with h0 | ⟨b, off, rfl, hb, hp⟩
      · subst h0; exact absurd hlt (by simp)
      obtain ⟨c0, c1⟩ := (hp.below HB.out hb) k hlt
      obtain ⟨kk, hkk⟩ : ∃ kk, l[k].k = kk := ⟨_, rfl⟩
      obtain ⟨vv, hvv⟩ : ∃ vv, l[k].v = vv := ⟨_, rfl⟩
      rw [hkk] at c0
      rw [hvv] at c1
      have HKK := Lib.hid hkk
      have HVV := Lib.hid hvv
      have HB1 : Hid (Below w.heap.size w (wr.alloc (polO kk vv))) := Lib.hid (HB.out.alloc HB.out.size _)
      have hk1 : (k : Int) < (l.length : Int) := by omega
      have hk2 : (k : Int) + 1 ≤ 9223372036854775807 := by have := HL.out; omega
      clear hkk hvv hp
      by_cases hq : kk = q
      · have HF : Hid (findK l q = some vv) := Lib.hid (by rw [← HVV.out]; exact findK_at l q k hlt HK.out (HKK.out.trans hq))
        have hq2 : (kk == q) = true := by simpa using hq
        have hq3 : decide (kk = q) = true := by simpa using hq
        clear hq
        go_wp2_with fail
        go_ret
        exact ⟨ret_int (by simp [valOf, HF.out]), HB1.out⟩
      · have HN : Hid (noK l q (k + 1)) := Lib.hid (HK.out.succ hlt (fun e => hq (HKK.out.symm.trans e)))
        have hq2 : (kk == q) = false := by simpa using hq
        have hq3 : decide (kk = q) = false := by simpa using hq
        clear hq
        go_wp2_with fail
        exact ⟨⟨k + 1, by go_num, HN.out, hlt, HB1.out⟩, by simp [intOf]; omega⟩
    · obtain rfl : k = l.length := by omega
      have HF : Hid (findK l q = none) := Lib.hid (findK_none l q (fun i h => HK.out i h h))
      by_cases h10 : q = 10
      · have HG : Hid (0 = valOf l q) := Lib.hid (by unfold valOf; rw [HF.out]; simp [h10, defV])
        have e1 : (q == 10) = true := by simpa using h10
        clear h10
        go_wp2_with fail
        go_ret
        exact ⟨ret_int HG.out, HB.out⟩
      · have e1 : (q == 10) = false := by simpa using h10
        by_cases h12 : q = 12
        · have HG : Hid (0 = valOf l q) := Lib.hid (by unfold valOf; rw [HF.out]; simp [h12, defV])
          have e2 : (q == 12) = true := by simpa using h12
          clear h12
          go_wp2_with fail
          go_ret
          exact ⟨ret_int HG.out, HB.out⟩
        · have HG : Hid (1 = valOf l q) := Lib.hid (by unfold valOf; rw [HF.out]; simp [h10, h12, defV])
          have e2 : (q == 12) = false := by simpa using h12
          clear h10 h12
          go_wp2_with fail
          go_ret
          exact ⟨ret_int HG.out, HB.out⟩

end Go.Proofs.YtladjkkkhomngaaDoor
