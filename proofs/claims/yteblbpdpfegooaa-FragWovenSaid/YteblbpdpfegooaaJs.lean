/- The law FragAll returns true, whatever the pieces and the limits. -/
import Derived.Test.YteblbpdpfegooaaJr
import Derived.Test.YteblbpdpfegooaaO
namespace Go.Proofs.Yteblbpdpfegooaa
open Go.RowKit Go.Sort Go.BigFrame

theorem allR_len {most room : Int} : ∀ (l : List Pc) (ops : List Op) (i : Int) (a : List Int) (c : List ByteArray), (allR most room ops l i a c).ids.length ≤ a.length + l.length ∧ (allR most room ops l i a c).bodies.length ≤ c.length + l.length
  | [], ops, i, a, c => by simp [allR]
  | p :: r, ops, i, a, c => by
    rw [allR]
    split
    · split
      · obtain ⟨h1, h2⟩ := allR_len (most := most) (room := room) r (took most room ops p).l (i + 1) (a ++ [p.id]) (c ++ [(took most room ops p).body])
        rw [List.length_append, List.length_singleton] at h1 h2
        rw [List.length_cons]
        exact ⟨by omega, by omega⟩
      · have := allR_len (most := most) (room := room) r (took most room ops p).l (i + 1) a c
        simp only [List.length_cons]
        omega
    · simp

theorem allT_len (most room : Int) (l : List Pc) : (allT most room l).ids.length ≤ 2000 ∧ (allT most room l).bodies.length ≤ 2000 := by
  unfold allT
  split
  · simp
  · split
    · have := allR_len (most := most) (room := room) l [] 0 [] []
      simp only [List.length_nil] at this
      omega
    · simp

set_option maxRecDepth 100000 in
set_option maxHeartbeats 4000000 in
theorem allLaw_any (ao : Option Addr) (cap : Nat) (l : List Pc) (most room : Int) (w : World) (h : RowAt w ao l) (hl : l.length ≤ 9223372036854775807) :
    Calls Try.prog 4 #[.slice ao l.length cap, .int .i64 most, .int .i64 room] w fun e w' => e = .returned (.bool true) ∧ Below w.heap.size w w' := by
  have AW := Lib.hid fun wx => awake_any wx
  have LI := Lib.hid (light_any ao cap l w h hl)
  have FA := Lib.hid fun wx (hx : Below w.heap.size w wx) => fall_any ao cap l most room wx (h.below hx)
  have RA := Lib.hid fun wx (hx : Below w.heap.size w wx) => rall_any ao cap l most room wx (h.below hx)
  obtain ⟨n1, n2⟩ := allT_len most room l
  obtain ⟨t, ht⟩ : ∃ t, allT most room l = t := ⟨_, rfl⟩
  rw [ht] at FA RA n1 n2
  obtain ⟨ids, bodies, bad, er⟩ := t
  simp only at n1 n2
  have SI := Lib.hid fun wx a1 a2 c1 c2 (r1 : IntRow wx a1 ids) (r2 : IntRow wx a2 ids) => sameI_eq a1 a2 c1 c2 ids wx r1 r2 (by omega)
  have ST := Lib.hid fun wx a1 a2 c1 c2 (r1 : TextRow wx a1 bodies) (r2 : TextRow wx a2 bodies) => sameT_eq a1 a2 c1 c2 bodies wx r1 r2 (by omega)
  clear h hl ht n1 n2
  go_enter Try.func4, Try.ntmps4
  go_wp2_with fail
  refine LI.out.mono ?_
  rintro e w1 ⟨r, rfl, hr, hb1⟩
  have B1 := Lib.hid hb1
  cases r
  · clear hr hb1
    go_wp2_with (go_at_call 7; refine (AW.out _).mono ?_; rintro e w2 ⟨rfl, hb2⟩; have B2 := Lib.hid (B1.out.trans (hb2.mono B1.out.size)); clear hb2)
    go_ret
    exact ⟨rfl, B2.out⟩
  clear hr hb1
  go_wp2_with (first
    | (go_at_call 23; refine (FA.out _ B1.out).mono ?_; rintro e w2 ⟨a1, c1, a2, c2, rfl, h1, h2, hb⟩; have B2 := Lib.hid (B1.out.trans (hb.mono B1.out.size)); have I1 := Lib.hid h1; have T1 := Lib.hid h2; clear h1 h2 hb)
    | (go_at_call 24; refine (RA.out _ B2.out).mono ?_; rintro e w3 ⟨a3, c3, a4, c4, rfl, h1, h2, hb⟩; have B3 := Lib.hid (B2.out.trans (hb.mono B2.out.size)); have I1 := Lib.hid (I1.out.below hb); have T1 := Lib.hid (T1.out.below hb); have I2 := Lib.hid h1; have T2 := Lib.hid h2; clear h1 h2 hb)
    | (go_at_call 14; refine (SI.out _ _ _ _ _ I1.out I2.out).mono ?_; rintro e w4 ⟨rfl, hb⟩; have B4 := Lib.hid (B3.out.trans (hb.mono B3.out.size)); have T1 := Lib.hid (T1.out.below hb); have T2 := Lib.hid (T2.out.below hb); clear hb)
    | (go_at_call 25; refine (ST.out _ _ _ _ _ T1.out T2.out).mono ?_; rintro e w5 ⟨rfl, hb⟩; have B5 := Lib.hid (B4.out.trans (hb.mono B4.out.size)); clear hb)
    | (go_at_call 7; refine (AW.out _).mono ?_; rintro e w6 ⟨rfl, hb⟩; have B6 := Lib.hid (B5.out.trans (hb.mono B5.out.size)); clear hb))
  go_ret
  exact ⟨rfl, B6.out⟩

end Go.Proofs.Yteblbpdpfegooaa
