/- The law FragCuts returns true, whatever the message and the sizes. -/
import Derived.Test.YtclhnpbjmefpeaaW
namespace Go.Proofs.Ytclhnpbjmefpeaa
open Go.RowKit Go.BigFrame

theorem cutL_most (id : Int) (b : ByteArray) (n : Int) : (cutL id b n).length ≤ 65537 := by
  cases hm : msgB id b
  · unfold cutL; rw [if_neg (by rw [hm]; decide)]; simp
  · have h1 := cutL_len id b n
    have h2 := msg_body hm
    omega
/-- Pieces and an error, written out. -/
def FlatP (w : World) (l : List Pc) (er : Int) (e : Ending) (w' : World) : Prop := ∃ a c, e = .returned (.tuple #[.slice a l.length c, .int .i64 er]) ∧ RowAt w' a l ∧ Below w.heap.size w w'
theorem RowPost.flat {w w' : World} {l : List Pc} {er : Int} {e : Ending} (h : RowPost w l er e w') : FlatP w l er e w' := by
  obtain ⟨⟨a, l', c⟩, h1, h2, h3, h4⟩ := h
  simp only at h1
  subst h1
  exact ⟨a, c, h2, h3.row, h4⟩
structure RC4 (w W : World) (a1 a2 a3 a4 : Option Addr) (cl sl : List Pc) : Prop where
  r1 : RowAt W a1 cl
  r2 : RowAt W a2 cl
  r3 : RowAt W a3 sl
  r4 : RowAt W a4 sl
  below : Below w.heap.size w W
theorem RC4.next {w W W' : World} {a1 a2 a3 a4 : Option Addr} {cl sl : List Pc} (h : RC4 w W a1 a2 a3 a4 cl sl) (hb : Below W.heap.size W W') : RC4 w W' a1 a2 a3 a4 cl sl :=
  ⟨h.r1.below hb, h.r2.below hb, h.r3.below hb, h.r4.below hb, h.below.trans (hb.mono h.below.size)⟩

set_option maxRecDepth 100000 in
set_option maxHeartbeats 8000000 in
theorem cutsLaw_any (id : Int) (b : ByteArray) (n o : Int) (ao : Option Addr) (cap : Nat) (ss : List Int) (w : World) (h : IntRow w ao ss) :
    Calls Try.prog 3 #[.int .i64 id, .string b, .int .i64 n, .int .i64 o, .slice ao ss.length cap] w fun e w' => e = .returned (.bool true) ∧ Below w.heap.size w w' := by
  have AW := Lib.hid fun wx => awake_any wx
  by_cases hb : b.size ≤ 300
  rotate_left 1
  · have e1 : (300 : Int) < (b.size : Int) := by omega
    have e2 : decide ((300 : Int) < (b.size : Int)) = true := decide_eq_true e1
    clear h hb
    go_enter Try.func3, Try.ntmps3
    go_wp2_with (go_at_call 6; refine (AW.out _).mono ?_; rintro e w2 ⟨rfl, hb2⟩; have B2 := Lib.hid hb2; clear hb2)
    go_ret
    exact ⟨rfl, B2.out⟩
  have e1 : ¬ (300 : Int) < (b.size : Int) := by omega
  have e2 : decide ((300 : Int) < (b.size : Int)) = false := decide_eq_false e1
  by_cases hl : ss.length ≤ 300
  rotate_left 1
  · have e3 : (300 : Int) < (ss.length : Int) := by omega
    have e4 : decide ((300 : Int) < (ss.length : Int)) = true := decide_eq_true e3
    clear h hb hl
    go_enter Try.func3, Try.ntmps3
    go_wp2_with (go_at_call 6; refine (AW.out _).mono ?_; rintro e w2 ⟨rfl, hb2⟩; have B2 := Lib.hid hb2; clear hb2)
    go_ret
    exact ⟨rfl, B2.out⟩
  have e3 : ¬ (300 : Int) < (ss.length : Int) := by omega
  have e4 : decide ((300 : Int) < (ss.length : Int)) = false := decide_eq_false e3
  have hf1 := cutL_most id b n
  have hf2 := sizL_few id b ss
  have hf3 := cutL_most id b o
  have hj1 := fun h9 => cutL_joined (id := id) (b := b) (n := n) h9 hb
  have hj2 := fun h9 => sizL_joined (id := id) (b := b) (ss := ss) h9 hb
  have ca := fun wx => cut_any id b n wx
  have cb := fun wx => rcut_any id b n wx
  have ob := fun wx => rcut_any id b o wx
  have sa := fun wx (hx : Below w.heap.size w wx) => sizes_any id b ao cap ss wx (h.below hx) (by omega)
  have sb := fun wx (hx : Below w.heap.size w wx) => rsizes_any id b ao cap ss wx (h.below hx) (by omega)
  obtain ⟨ol, hol⟩ : ∃ x, cutL id b o = x := ⟨_, rfl⟩
  obtain ⟨oe, hoe⟩ : ∃ x, cutE id b o = x := ⟨_, rfl⟩
  rw [hol, hoe] at ob
  rw [hol] at hf3
  have hj1' : cutE id b n = 0 → jnE (cutL id b n) = 0 ∧ jnI (cutL id b n) = id ∧ jnB (cutL id b n) = b ∧ agL (cutL id b n) o = ol ∧ agE (cutL id b n) o = oe := fun h9 => by
    obtain ⟨_, g2, g3, g4, g5⟩ := hj1 h9
    exact ⟨g2, g3, g4, (g5 o).1.trans hol, (g5 o).2.trans hoe⟩
  clear hj1
  obtain ⟨cl, hcl⟩ : ∃ x, cutL id b n = x := ⟨_, rfl⟩
  obtain ⟨ce, hce⟩ : ∃ x, cutE id b n = x := ⟨_, rfl⟩
  obtain ⟨sl, hsl⟩ : ∃ x, sizL id b ss = x := ⟨_, rfl⟩
  obtain ⟨se, hse⟩ : ∃ x, sizE id b ss = x := ⟨_, rfl⟩
  rw [hcl, hce] at ca cb hj1'
  rw [hsl, hse] at sa sb hj2
  rw [hcl] at hf1
  rw [hsl] at hf2
  have CA : Hid (∀ wx, Calls Try.prog 7 #[.int .i64 id, .string b, .int .i64 n] wx (FlatP wx cl ce)) := Lib.hid fun wx => (ca wx).mono fun _ _ h => h.flat
  have CB : Hid (∀ wx, Calls Try.prog 8 #[.int .i64 id, .string b, .int .i64 n] wx (FlatP wx cl ce)) := Lib.hid fun wx => (cb wx).mono fun _ _ h => h.flat
  have OB : Hid (∀ wx, Calls Try.prog 8 #[.int .i64 id, .string b, .int .i64 o] wx (FlatP wx ol oe)) := Lib.hid fun wx => (ob wx).mono fun _ _ h => h.flat
  have SA : Hid (∀ wx, Below w.heap.size w wx → Calls Try.prog 9 #[.int .i64 id, .string b, .slice ao ss.length cap] wx (FlatP wx sl se)) := Lib.hid fun wx hx => (sa wx hx).mono fun _ _ h => h.flat
  have SB : Hid (∀ wx, Below w.heap.size w wx → Calls Try.prog 10 #[.int .i64 id, .string b, .slice ao ss.length cap] wx (FlatP wx sl se)) := Lib.hid fun wx hx => (sb wx hx).mono fun _ _ h => h.flat
  have S1 := Lib.hid fun wx a1 a2 c1 c2 (r1 : RowAt wx a1 cl) (r2 : RowAt wx a2 cl) => same_eq a1 a2 c1 c2 cl wx r1 r2 (by omega)
  have S2 := Lib.hid fun wx a1 a2 c1 c2 (r1 : RowAt wx a1 sl) (r2 : RowAt wx a2 sl) => same_eq a1 a2 c1 c2 sl wx r1 r2 (by omega)
  have S3 := Lib.hid fun wx a1 a2 c1 c2 (r1 : RowAt wx a1 ol) (r2 : RowAt wx a2 ol) => same_eq a1 a2 c1 c2 ol wx r1 r2 (by omega)
  have JA : Hid (ce = 0 → ∀ wx a c, RowAt wx a cl → Calls Try.prog 12 #[.slice a cl.length c] wx fun e w' => e = .returned (.tuple #[.int .i64 id, .string b, .int .i64 0]) ∧ Below wx.heap.size wx w') := Lib.hid fun h9 wx a c hr => (joins_any a c cl wx hr).mono fun e w' hp => by
    obtain ⟨g1, g2, g3, _, _⟩ := hj1' h9
    obtain ⟨p1, p2⟩ := hp
    rw [g1, g2, g3] at p1
    exact ⟨p1, p2⟩
  have GA : Hid (ce = 0 → ∀ wx a c, RowAt wx a cl → Calls Try.prog 13 #[.slice a cl.length c, .int .i64 o] wx (FlatP wx ol oe)) := Lib.hid fun h9 wx a c hr => (again_any a c cl o wx hr).mono fun e w' hp => by
    obtain ⟨_, _, _, g4, g5⟩ := hj1' h9
    rw [g4, g5] at hp
    exact hp.flat
  have JS : Hid (se = 0 → ∀ wx a c, RowAt wx a sl → Calls Try.prog 12 #[.slice a sl.length c] wx fun e w' => e = .returned (.tuple #[.int .i64 id, .string b, .int .i64 0]) ∧ Below wx.heap.size wx w') := Lib.hid fun h9 wx a c hr => (joins_any a c sl wx hr).mono fun e w' hp => by
    obtain ⟨g1, g2, g3⟩ := hj2 h9
    obtain ⟨p1, p2⟩ := hp
    rw [g1, g2, g3] at p1
    exact ⟨p1, p2⟩
  clear h hb hl hf1 hf2 hf3 hj1' hj2 ca cb ob sa sb hol hoe hcl hce hsl hse
  by_cases h1 : ce = 0
  · subst h1
    have ja := JA.out rfl
    have ga := GA.out rfl
    clear JA GA
    have JA := Lib.hid ja
    have GA := Lib.hid ga
    clear ja ga
    by_cases h2 : se = 0
    · subst h2
      have js := JS.out rfl
      clear JS
      have JS := Lib.hid js
      clear js
      go_enter Try.func3, Try.ntmps3
      go_wp2_with (first
        | (go_at_call 7; refine (CA.out _).mono ?_; rintro e w1 ⟨a1, c1, rfl, r1, hb1⟩; have R1 := Lib.hid r1; have B1 := Lib.hid hb1; clear r1 hb1)
        | (go_at_call 8; refine (CB.out _).mono ?_; rintro e w2 ⟨a2, c2, rfl, r2, hb2⟩; have R2 := Lib.hid r2; have B2 := Lib.hid (B1.out.trans (hb2.mono B1.out.size)); have R1 := Lib.hid (R1.out.below hb2); clear r2 hb2 CB)
        | (go_at_call 9; refine (SA.out _ B2.out).mono ?_; rintro e w3 ⟨a3, c3, rfl, r3, hb3⟩; have R3 := Lib.hid r3; have B3 := Lib.hid (B2.out.trans (hb3.mono B2.out.size)); have R1 := Lib.hid (R1.out.below hb3); have R2 := Lib.hid (R2.out.below hb3); clear r3 hb3)
        | (go_at_call 10; refine (SB.out _ B3.out).mono ?_; rintro e w4 ⟨a4, c4, rfl, r4, hb4⟩; have HC : Hid (RC4 w w4 a1 a2 a3 a4 cl sl) := Lib.hid ⟨R1.out.below hb4, R2.out.below hb4, R3.out.below hb4, r4, B3.out.trans (hb4.mono B3.out.size)⟩; clear r4 hb4 R1 R2 R3 B1 B2 B3)
        | (go_at_call 11; refine (S1.out _ _ _ _ _ HC.out.r1 HC.out.r2).mono ?_; rintro e w5 ⟨rfl, hb5⟩; have HC := Lib.hid (HC.out.next hb5); clear hb5 S1)
        | (go_at_call 11; refine (S2.out _ _ _ _ _ HC.out.r3 HC.out.r4).mono ?_; rintro e w5 ⟨rfl, hb5⟩; have HC := Lib.hid (HC.out.next hb5); clear hb5 S2)
        | (go_at_call 12; refine (JA.out _ _ _ HC.out.r1).mono ?_; rintro e w5 ⟨rfl, hb5⟩; have HC := Lib.hid (HC.out.next hb5); clear hb5 JA)
        | (go_at_call 13; refine (GA.out _ _ _ HC.out.r1).mono ?_; rintro e w5 ⟨a5, c5, rfl, r5, hb5⟩; have HC := Lib.hid (HC.out.next hb5); have R5 := Lib.hid r5; clear r5 hb5)
        | (go_at_call 8; refine (OB.out _).mono ?_; rintro e w5 ⟨a6, c6, rfl, r6, hb5⟩; have HC := Lib.hid (HC.out.next hb5); have R6 := Lib.hid r6; have R5 := Lib.hid (R5.out.below hb5); clear r6 hb5)
        | (go_at_call 11; refine (S3.out _ _ _ _ _ R5.out R6.out).mono ?_; rintro e w5 ⟨rfl, hb5⟩; have HC := Lib.hid (HC.out.next hb5); clear hb5)
        | (go_at_call 12; refine (JS.out _ _ _ HC.out.r3).mono ?_; rintro e w5 ⟨rfl, hb5⟩; have HC := Lib.hid (HC.out.next hb5); clear hb5)
        | (go_at_call 6; refine (AW.out _).mono ?_; rintro e w5 ⟨rfl, hb5⟩; have HC := Lib.hid (HC.out.next hb5); clear hb5))
      go_ret
      exact ⟨rfl, HC.out.below⟩
    · have e5 : decide (se = 0) = false := decide_eq_false h2
      clear JS
      go_enter Try.func3, Try.ntmps3
      go_wp2_with (first
        | (go_at_call 7; refine (CA.out _).mono ?_; rintro e w1 ⟨a1, c1, rfl, r1, hb1⟩; have R1 := Lib.hid r1; have B1 := Lib.hid hb1; clear r1 hb1)
        | (go_at_call 8; refine (CB.out _).mono ?_; rintro e w2 ⟨a2, c2, rfl, r2, hb2⟩; have R2 := Lib.hid r2; have B2 := Lib.hid (B1.out.trans (hb2.mono B1.out.size)); have R1 := Lib.hid (R1.out.below hb2); clear r2 hb2 CB)
        | (go_at_call 9; refine (SA.out _ B2.out).mono ?_; rintro e w3 ⟨a3, c3, rfl, r3, hb3⟩; have R3 := Lib.hid r3; have B3 := Lib.hid (B2.out.trans (hb3.mono B2.out.size)); have R1 := Lib.hid (R1.out.below hb3); have R2 := Lib.hid (R2.out.below hb3); clear r3 hb3)
        | (go_at_call 10; refine (SB.out _ B3.out).mono ?_; rintro e w4 ⟨a4, c4, rfl, r4, hb4⟩; have HC : Hid (RC4 w w4 a1 a2 a3 a4 cl sl) := Lib.hid ⟨R1.out.below hb4, R2.out.below hb4, R3.out.below hb4, r4, B3.out.trans (hb4.mono B3.out.size)⟩; clear r4 hb4 R1 R2 R3 B1 B2 B3)
        | (go_at_call 11; refine (S1.out _ _ _ _ _ HC.out.r1 HC.out.r2).mono ?_; rintro e w5 ⟨rfl, hb5⟩; have HC := Lib.hid (HC.out.next hb5); clear hb5 S1)
        | (go_at_call 11; refine (S2.out _ _ _ _ _ HC.out.r3 HC.out.r4).mono ?_; rintro e w5 ⟨rfl, hb5⟩; have HC := Lib.hid (HC.out.next hb5); clear hb5 S2)
        | (go_at_call 12; refine (JA.out _ _ _ HC.out.r1).mono ?_; rintro e w5 ⟨rfl, hb5⟩; have HC := Lib.hid (HC.out.next hb5); clear hb5 JA)
        | (go_at_call 13; refine (GA.out _ _ _ HC.out.r1).mono ?_; rintro e w5 ⟨a5, c5, rfl, r5, hb5⟩; have HC := Lib.hid (HC.out.next hb5); have R5 := Lib.hid r5; clear r5 hb5)
        | (go_at_call 8; refine (OB.out _).mono ?_; rintro e w5 ⟨a6, c6, rfl, r6, hb5⟩; have HC := Lib.hid (HC.out.next hb5); have R6 := Lib.hid r6; have R5 := Lib.hid (R5.out.below hb5); clear r6 hb5)
        | (go_at_call 11; refine (S3.out _ _ _ _ _ R5.out R6.out).mono ?_; rintro e w5 ⟨rfl, hb5⟩; have HC := Lib.hid (HC.out.next hb5); clear hb5)
        | (go_at_call 12; refine (JS.out _ _ _ HC.out.r3).mono ?_; rintro e w5 ⟨rfl, hb5⟩; have HC := Lib.hid (HC.out.next hb5); clear hb5)
        | (go_at_call 6; refine (AW.out _).mono ?_; rintro e w5 ⟨rfl, hb5⟩; have HC := Lib.hid (HC.out.next hb5); clear hb5))
      go_ret
      exact ⟨rfl, HC.out.below⟩
  · have e6 : decide (ce = 0) = false := decide_eq_false h1
    clear JA GA OB S3
    by_cases h2 : se = 0
    · subst h2
      have js := JS.out rfl
      clear JS
      have JS := Lib.hid js
      clear js
      go_enter Try.func3, Try.ntmps3
      go_wp2_with (first
        | (go_at_call 7; refine (CA.out _).mono ?_; rintro e w1 ⟨a1, c1, rfl, r1, hb1⟩; have R1 := Lib.hid r1; have B1 := Lib.hid hb1; clear r1 hb1)
        | (go_at_call 8; refine (CB.out _).mono ?_; rintro e w2 ⟨a2, c2, rfl, r2, hb2⟩; have R2 := Lib.hid r2; have B2 := Lib.hid (B1.out.trans (hb2.mono B1.out.size)); have R1 := Lib.hid (R1.out.below hb2); clear r2 hb2 CB)
        | (go_at_call 9; refine (SA.out _ B2.out).mono ?_; rintro e w3 ⟨a3, c3, rfl, r3, hb3⟩; have R3 := Lib.hid r3; have B3 := Lib.hid (B2.out.trans (hb3.mono B2.out.size)); have R1 := Lib.hid (R1.out.below hb3); have R2 := Lib.hid (R2.out.below hb3); clear r3 hb3)
        | (go_at_call 10; refine (SB.out _ B3.out).mono ?_; rintro e w4 ⟨a4, c4, rfl, r4, hb4⟩; have HC : Hid (RC4 w w4 a1 a2 a3 a4 cl sl) := Lib.hid ⟨R1.out.below hb4, R2.out.below hb4, R3.out.below hb4, r4, B3.out.trans (hb4.mono B3.out.size)⟩; clear r4 hb4 R1 R2 R3 B1 B2 B3)
        | (go_at_call 11; refine (S1.out _ _ _ _ _ HC.out.r1 HC.out.r2).mono ?_; rintro e w5 ⟨rfl, hb5⟩; have HC := Lib.hid (HC.out.next hb5); clear hb5 S1)
        | (go_at_call 11; refine (S2.out _ _ _ _ _ HC.out.r3 HC.out.r4).mono ?_; rintro e w5 ⟨rfl, hb5⟩; have HC := Lib.hid (HC.out.next hb5); clear hb5 S2)
        | (go_at_call 12; refine (JA.out _ _ _ HC.out.r1).mono ?_; rintro e w5 ⟨rfl, hb5⟩; have HC := Lib.hid (HC.out.next hb5); clear hb5 JA)
        | (go_at_call 13; refine (GA.out _ _ _ HC.out.r1).mono ?_; rintro e w5 ⟨a5, c5, rfl, r5, hb5⟩; have HC := Lib.hid (HC.out.next hb5); have R5 := Lib.hid r5; clear r5 hb5)
        | (go_at_call 8; refine (OB.out _).mono ?_; rintro e w5 ⟨a6, c6, rfl, r6, hb5⟩; have HC := Lib.hid (HC.out.next hb5); have R6 := Lib.hid r6; have R5 := Lib.hid (R5.out.below hb5); clear r6 hb5)
        | (go_at_call 11; refine (S3.out _ _ _ _ _ R5.out R6.out).mono ?_; rintro e w5 ⟨rfl, hb5⟩; have HC := Lib.hid (HC.out.next hb5); clear hb5)
        | (go_at_call 12; refine (JS.out _ _ _ HC.out.r3).mono ?_; rintro e w5 ⟨rfl, hb5⟩; have HC := Lib.hid (HC.out.next hb5); clear hb5)
        | (go_at_call 6; refine (AW.out _).mono ?_; rintro e w5 ⟨rfl, hb5⟩; have HC := Lib.hid (HC.out.next hb5); clear hb5))
      go_ret
      exact ⟨rfl, HC.out.below⟩
    · have e5 : decide (se = 0) = false := decide_eq_false h2
      clear JS
      go_enter Try.func3, Try.ntmps3
      go_wp2_with (first
        | (go_at_call 7; refine (CA.out _).mono ?_; rintro e w1 ⟨a1, c1, rfl, r1, hb1⟩; have R1 := Lib.hid r1; have B1 := Lib.hid hb1; clear r1 hb1)
        | (go_at_call 8; refine (CB.out _).mono ?_; rintro e w2 ⟨a2, c2, rfl, r2, hb2⟩; have R2 := Lib.hid r2; have B2 := Lib.hid (B1.out.trans (hb2.mono B1.out.size)); have R1 := Lib.hid (R1.out.below hb2); clear r2 hb2 CB)
        | (go_at_call 9; refine (SA.out _ B2.out).mono ?_; rintro e w3 ⟨a3, c3, rfl, r3, hb3⟩; have R3 := Lib.hid r3; have B3 := Lib.hid (B2.out.trans (hb3.mono B2.out.size)); have R1 := Lib.hid (R1.out.below hb3); have R2 := Lib.hid (R2.out.below hb3); clear r3 hb3)
        | (go_at_call 10; refine (SB.out _ B3.out).mono ?_; rintro e w4 ⟨a4, c4, rfl, r4, hb4⟩; have HC : Hid (RC4 w w4 a1 a2 a3 a4 cl sl) := Lib.hid ⟨R1.out.below hb4, R2.out.below hb4, R3.out.below hb4, r4, B3.out.trans (hb4.mono B3.out.size)⟩; clear r4 hb4 R1 R2 R3 B1 B2 B3)
        | (go_at_call 11; refine (S1.out _ _ _ _ _ HC.out.r1 HC.out.r2).mono ?_; rintro e w5 ⟨rfl, hb5⟩; have HC := Lib.hid (HC.out.next hb5); clear hb5 S1)
        | (go_at_call 11; refine (S2.out _ _ _ _ _ HC.out.r3 HC.out.r4).mono ?_; rintro e w5 ⟨rfl, hb5⟩; have HC := Lib.hid (HC.out.next hb5); clear hb5 S2)
        | (go_at_call 12; refine (JA.out _ _ _ HC.out.r1).mono ?_; rintro e w5 ⟨rfl, hb5⟩; have HC := Lib.hid (HC.out.next hb5); clear hb5 JA)
        | (go_at_call 13; refine (GA.out _ _ _ HC.out.r1).mono ?_; rintro e w5 ⟨a5, c5, rfl, r5, hb5⟩; have HC := Lib.hid (HC.out.next hb5); have R5 := Lib.hid r5; clear r5 hb5)
        | (go_at_call 8; refine (OB.out _).mono ?_; rintro e w5 ⟨a6, c6, rfl, r6, hb5⟩; have HC := Lib.hid (HC.out.next hb5); have R6 := Lib.hid r6; have R5 := Lib.hid (R5.out.below hb5); clear r6 hb5)
        | (go_at_call 11; refine (S3.out _ _ _ _ _ R5.out R6.out).mono ?_; rintro e w5 ⟨rfl, hb5⟩; have HC := Lib.hid (HC.out.next hb5); clear hb5)
        | (go_at_call 12; refine (JS.out _ _ _ HC.out.r3).mono ?_; rintro e w5 ⟨rfl, hb5⟩; have HC := Lib.hid (HC.out.next hb5); clear hb5)
        | (go_at_call 6; refine (AW.out _).mono ?_; rintro e w5 ⟨rfl, hb5⟩; have HC := Lib.hid (HC.out.next hb5); clear hb5))
      go_ret
      exact ⟨rfl, HC.out.below⟩

end Go.Proofs.Ytclhnpbjmefpeaa
