/- The law's light and awake. -/
import Derived.Test.YteblbpdpfegooaaL
namespace Go.Proofs.Yteblbpdpfegooaa
open Go.RowKit Go.BigFrame

/-- What light says. -/
def LightP (l : List Pc) (w : World) (e : Ending) (w' : World) : Prop := ∃ r : Bool, e = .returned (.bool r) ∧ (r = true → l.length ≤ 200) ∧ Below w.heap.size w w'

set_option maxRecDepth 100000 in
set_option maxHeartbeats 2000000 in
theorem light_any (ao : Option Addr) (cap : Nat) (l : List Pc) (w : World) (h : RowAt w ao l) (hl : l.length ≤ 9223372036854775807) :
    Calls Try.prog 6 #[.slice ao l.length cap] w (LightP l w) := by
  have HR := Lib.hid h
  have HL := Lib.hid hl
  clear h hl
  go_enter Try.func6, Try.ntmps6
  go_wp2_with fail
  go_loopw [3, 8] (fun n i wr => ∃ (k : Nat) (s : Int), i = .int .i64 k ∧ k ≤ l.length ∧ n = .int .i64 s ∧ Below w.heap.size w wr) (fun _ i _ => l.length - (intOf i).toNat)
  case atStart => exact ⟨0, 0, rfl, Nat.zero_le _, rfl, Below.refl _ _⟩
  case round =>
    obtain ⟨k, s, rfl, hk, rfl, hbel⟩ := hrel
    have HB := Lib.hid hbel
    clear hbel
    by_cases hlt : k < l.length
    · rcases HR.out with h0 | ⟨b, off, rfl, hb, hp⟩
      · subst h0; exact absurd hlt (by simp)
      obtain ⟨c0, c1, c2, c3⟩ := (hp.below HB.out hb) k hlt
      obtain ⟨p, hpp⟩ : ∃ p, l[k] = p := ⟨_, rfl⟩
      rw [hpp] at c0 c1 c2 c3
      obtain ⟨i, pl, m, bd⟩ := p
      simp only at c0 c1 c2 c3
      have hk1 : (k : Int) < (l.length : Int) := by omega
      have hk2 : (k : Int) + 1 ≤ 9223372036854775807 := by have := HL.out; omega
      have hk0 : (0 : Int) ≤ (k : Int) := by omega
      have HLT := Lib.hid hlt
      have HA : Hid (Below wr.heap.size wr (wr.alloc (pcO i pl m bd))) := Lib.hid ((Below.refl _ _).alloc (Nat.le_refl _) _)
      clear hpp hp
      go_wp2_with fail
      exact ⟨⟨k + 1, _, by go_num, HLT.out, rfl, HB.out.trans (HA.out.mono HB.out.size)⟩, by simp [intOf]; have := HLT.out; omega⟩
    · obtain rfl : k = l.length := by omega
      by_cases h1 : l.length ≤ 200
      · have e1 : (l.length : Int) ≤ 200 := by omega
        have e2 : decide ((l.length : Int) ≤ 200) = true := decide_eq_true e1
        have H1 := Lib.hid h1
        clear h1 hlt
        by_cases h2 : s ≤ 3000
        · have e3 : decide (s ≤ 3000) = true := decide_eq_true h2
          go_wp2_with fail
          go_ret
          exact ⟨_, rfl, fun _ => H1.out, HB.out⟩
        · have e3 : decide (s ≤ 3000) = false := decide_eq_false h2
          go_wp2_with fail
          go_ret
          exact ⟨_, rfl, fun _ => H1.out, HB.out⟩
      · have e1 : ¬ (l.length : Int) ≤ 200 := by omega
        have e2 : decide ((l.length : Int) ≤ 200) = false := decide_eq_false e1
        clear h1 hlt
        go_wp2_with fail
        go_ret
        exact ⟨false, rfl, fun h => (by cases h), HB.out⟩

def pcA0 : Pc := ⟨1, 0, true, ⟨#[97, 98]⟩⟩

def pcA1 : Pc := ⟨1, 1, true, ⟨#[99, 100]⟩⟩

def pcA2 : Pc := ⟨1, 2, false, ⟨#[101]⟩⟩

def pcB0 : Pc := ⟨2, 0, false, ⟨#[120]⟩⟩

theorem ex_a : (⟨#[97, 98, 99, 100, 101]⟩ : ByteArray).extract 0 2 = ⟨#[97, 98]⟩ ∧ (⟨#[97, 98, 99, 100, 101]⟩ : ByteArray).extract 2 5 = ⟨#[99, 100, 101]⟩ ∧ (⟨#[99, 100, 101]⟩ : ByteArray).extract 0 2 = ⟨#[99, 100]⟩ ∧ (⟨#[99, 100, 101]⟩ : ByteArray).extract 2 3 = ⟨#[101]⟩ := by decide

theorem cut_a : cutL 1 ⟨#[97, 98, 99, 100, 101]⟩ 2 = [pcA0, pcA1, pcA2] ∧ cutE 1 ⟨#[97, 98, 99, 100, 101]⟩ 2 = 0 := by
  obtain ⟨x1, x2, x3, x4⟩ := ex_a
  have h1 : msgB 1 ⟨#[97, 98, 99, 100, 101]⟩ = true := by decide
  have h2 : sizeB 2 = true := by decide
  constructor
  · unfold cutL
    rw [if_pos h1, if_pos h2]
    change cutP 1 (fun _ => some 2) 0 _ = _
    rw [cut_more (id := 1) (g := fun _ => some 2) (k := 0) (n := 2) (b := ⟨#[97, 98, 99, 100, 101]⟩) rfl (by decide) (by decide)]
    rw [show (⟨#[97, 98, 99, 100, 101]⟩ : ByteArray).size = 5 from rfl, x1, x2]
    rw [cut_more (id := 1) (g := fun _ => some 2) (k := 0 + 1) (n := 2) (b := ⟨#[99, 100, 101]⟩) rfl (by decide) (by decide)]
    rw [show (⟨#[99, 100, 101]⟩ : ByteArray).size = 3 from rfl, x3, x4]
    rw [cut_last (id := 1) (g := fun _ => some 2) (k := 0 + 1 + 1) (n := 2) (b := ⟨#[101]⟩) rfl (by decide)]
    rfl
  · unfold cutE
    rw [if_pos h1, if_pos h2]

theorem cut_b : cutL 2 ⟨#[120]⟩ 5 = [pcB0] ∧ cutE 2 ⟨#[120]⟩ 5 = 0 := by
  have h1 : msgB 2 ⟨#[120]⟩ = true := by decide
  have h2 : sizeB 5 = true := by decide
  constructor
  · unfold cutL
    rw [if_pos h1, if_pos h2]
    change cutP 2 (fun _ => some 5) 0 _ = _
    rw [cut_last (id := 2) (g := fun _ => some 5) (k := 0) (n := 5) (b := ⟨#[120]⟩) rfl (by decide)]
    rfl
  · unfold cutE
    rw [if_pos h1, if_pos h2]

theorem weave_ab : wvE [[pcA0, pcA1, pcA2], [pcB0]] [0, 1] = 0 ∧ wvL [[pcA0, pcA1, pcA2], [pcB0]] [0, 1] = [pcA0, pcB0, pcA1, pcA2] := by
  have h : wvE [[pcA0, pcA1, pcA2], [pcB0]] [0, 1] = 0 := by decide
  refine ⟨h, ?_⟩
  unfold wvL
  rw [if_pos h]
  rfl

set_option maxRecDepth 100000 in
set_option maxHeartbeats 4000000 in
theorem awake_any (w : World) : Calls Try.prog 7 #[] w fun e w' => e = .returned (.bool true) ∧ Below w.heap.size w w' := by
  have CA := Lib.hid (cut_any 1 ⟨#[97, 98, 99, 100, 101]⟩ 2 w)
  rw [cut_a.1, cut_a.2] at CA
  have CB := Lib.hid fun wx => cut_any 2 ⟨#[120]⟩ 5 wx
  rw [cut_b.1, cut_b.2] at CB
  go_enter Try.func7, Try.ntmps7
  go_wp2_with fail
  refine CA.out.mono ?_
  rintro e w1 ⟨⟨a1, l1, c1⟩, hl1, rfl, hok1, hb1⟩
  simp only at hl1
  subst hl1
  have B1 := Lib.hid hb1
  have K1 := Lib.hid hok1
  clear hb1 hok1
  unfold SlD.v
  simp only [List.length_cons, List.length_nil]
  go_wp2_with fail
  refine (CB.out w1).mono ?_
  rintro e w2 ⟨⟨a2, l2, c2⟩, hl2, rfl, hok2, hb2⟩
  simp only at hl2
  subst hl2
  have K1b := Lib.hid (K1.out.below hb2)
  have K2 := Lib.hid hok2
  have B2 := Lib.hid (B1.out.trans (hb2.mono B1.out.size))
  clear hb2 hok2
  unfold SlD.v
  simp only [List.length_cons, List.length_nil]
  have hst : Below w2.heap.size w2 ((w2.alloc (.cells #[.slice a1 3 c1, .slice a2 1 c2] 23)).alloc (.cells #[.int .i64 0, .int .i64 1] 3)) := ((Below.refl _ _).alloc (Nat.le_refl _) _).alloc (by simp) _
  have hll : LlAt ((w2.alloc (.cells #[.slice a1 3 c1, .slice a2 1 c2] 23)).alloc (.cells #[.int .i64 0, .int .i64 1] 3)) (some ⟨w2.heap.size, 0, none⟩) [⟨a1, [pcA0, pcA1, pcA2], c1⟩, ⟨a2, [pcB0], c2⟩] 2 := by
    refine ⟨by simp, .inr ⟨w2.heap.size, 0, rfl, by simp; omega, fun i hi => ?_⟩, ?_⟩
    · have h2 : ((w2.alloc (.cells #[.slice a1 3 c1, .slice a2 1 c2] 23)).alloc (.cells #[.int .i64 0, .int .i64 1] 3)).heap[w2.heap.size]? = some (.cells #[.slice a1 3 c1, .slice a2 1 c2] 23 (0, 0)) := (Below.heap_alloc _ _ _ (by simp)).trans (heap_alloc_new _ _)
      rw [Nat.zero_add, cells_at h2]
      match i, hi with
      | 0, _ => rfl
      | 1, _ => rfl
    · intro d hd
      simp only [List.mem_cons, List.not_mem_nil, or_false] at hd
      rcases hd with rfl | rfl
      · exact (K1b.out.below hst).lt
      · exact (K2.out.below hst).lt
  have hir : IntRow ((w2.alloc (.cells #[.slice a1 3 c1, .slice a2 1 c2] 23)).alloc (.cells #[.int .i64 0, .int .i64 1] 3)) (some ⟨w2.heap.size + 1, 0, none⟩) [0, 1] := by
    refine .inr ⟨w2.heap.size + 1, 0, rfl, by simp, fun i hi => ?_⟩
    have h2 := heap_alloc_new (w2.alloc (.cells #[.slice a1 3 c1, .slice a2 1 c2] 23)) (.cells #[.int .i64 0, .int .i64 1] 3)
    rw [World.size_alloc] at h2
    rw [Nat.zero_add, cells_at h2]
    match i, hi with
    | 0, _ => rfl
    | 1, _ => rfl
  have WA0 := weave_any _ _ 2 2 _ _ _ hll hir (by simp) (by intro d hd; simp only [List.mem_cons, List.not_mem_nil, or_false] at hd; rcases hd with rfl | rfl <;> simp) (by simp) (by intro t ht; simp only [List.mem_cons, List.not_mem_nil, or_false] at ht; omega)
  rw [show lls [⟨a1, [pcA0, pcA1, pcA2], c1⟩, ⟨a2, [pcB0], c2⟩] = [[pcA0, pcA1, pcA2], [pcB0]] from rfl, weave_ab.1, weave_ab.2] at WA0
  simp only [List.length_cons, List.length_nil] at WA0
  have WA := Lib.hid WA0
  have HST := Lib.hid hst
  clear WA0 hll hir hst
  go_wp2_with fail
  refine WA.out.mono ?_
  rintro e w3 ⟨⟨a3, l3, c3⟩, hl3, rfl, hok3, hb3⟩
  simp only at hl3
  subst hl3
  have B3 := Lib.hid (B2.out.trans ((HST.out.trans (hb3.mono HST.out.size)).mono B2.out.size))
  obtain ⟨b, off, h1, _, hp⟩ := hok3.row.resolve_left (by simp)
  simp only at h1
  subst h1
  obtain ⟨_, _, _, p0⟩ := hp 0 (by simp)
  obtain ⟨_, _, _, p1⟩ := hp 1 (by simp)
  obtain ⟨_, _, _, p2⟩ := hp 2 (by simp)
  obtain ⟨_, _, _, p3⟩ := hp 3 (by simp)
  simp [pcA0, pcA1, pcA2, pcB0] at p0 p1 p2 p3
  clear hb3 hok3 hp
  unfold SlD.v
  simp only [List.length_cons, List.length_nil]
  go_wp2_with fail
  go_ret
  exact ⟨rfl, B3.out⟩

end Go.Proofs.Yteblbpdpfegooaa
