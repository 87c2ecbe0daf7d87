/- The reference's New, Held. -/
import Derived.Test.YteblbpdpfegooaaJc
namespace Go.Proofs.Yteblbpdpfegooaa
open Go.RowKit Go.BigFrame

/-- What New asks of the limits. -/
def limB (most room : Int) : Bool := decide (1 ≤ most) && (decide (most ≤ 100) && (decide (1 ≤ room) && decide (room ≤ 1000000)))

theorem limB_spec {most room : Int} (h : limB most room = true) : 1 ≤ most ∧ most ≤ 100 ∧ 1 ≤ room ∧ room ≤ 1000000 := by
  unfold limB at h
  simpa [Bool.and_eq_true, decide_eq_true_eq] using h

theorem limB_cases (most room : Int) (P : Prop) (h1 : most < 1 → limB most room = false → P) (h2 : ¬ most < 1 → 100 < most → limB most room = false → P) (h3 : ¬ most < 1 → ¬ 100 < most → room < 1 → limB most room = false → P)
    (h4 : ¬ most < 1 → ¬ 100 < most → ¬ room < 1 → 1000000 < room → limB most room = false → P) (h5 : ¬ most < 1 → ¬ 100 < most → ¬ room < 1 → ¬ 1000000 < room → limB most room = true → P) : P := by
  by_cases a1 : most < 1
  · exact h1 a1 (by unfold limB; rw [decide_eq_false (by omega : ¬ 1 ≤ most)]; rfl)
  by_cases a2 : 100 < most
  · exact h2 a1 a2 (by unfold limB; rw [decide_eq_false (by omega : ¬ most ≤ 100)]; simp)
  by_cases a3 : room < 1
  · exact h3 a1 a2 a3 (by unfold limB; rw [decide_eq_false (by omega : ¬ 1 ≤ room)]; simp)
  by_cases a4 : 1000000 < room
  · exact h4 a1 a2 a3 a4 (by unfold limB; rw [decide_eq_false (by omega : ¬ room ≤ 1000000)]; simp)
  · exact h5 a1 a2 a3 a4 (by unfold limB; rw [decide_eq_true (by omega : 1 ≤ most), decide_eq_true (by omega : most ≤ 100), decide_eq_true (by omega : 1 ≤ room), decide_eq_true (by omega : room ≤ 1000000)]; rfl)

/-- What the reference's New returns. -/
def RNewP (most room : Int) (w : World) (e : Ending) (w' : World) : Prop :=
  if limB most room = true then ∃ b F, e = .returned (.tuple #[.pointer (some ⟨b, 0, none⟩), .int .i64 0]) ∧ RJ w' F b most room (.slice none 0 0) [] ∧ (∀ k, F k → w.heap.size ≤ k) ∧ Below w.heap.size w w'
  else e = .returned (.tuple #[.pointer none, .int .i64 7]) ∧ w' = w

theorem rnew_ok {most room : Int} (w : World) (h : limB most room = true) : RNewP most room w (.returned (.tuple #[.pointer (some ⟨w.heap.size, 0, none⟩), .int .i64 0])) (w.alloc (.cells #[.int .i64 most, .int .i64 room, .slice none 0 0] 63)) := by
  unfold RNewP
  rw [if_pos h]
  refine ⟨w.heap.size, fun k => k = w.heap.size, rfl, ⟨heap_alloc_new _ _, by simpa [opCells] using World.ownsRow_nil _ _ _ _, rfl, fun g hg => by simp [Value.ownBlock] at hg, fun k hk => by rw [hk]; simp⟩, fun k hk => by omega, (Below.refl _ _).alloc (Nat.le_refl _) _⟩

theorem rnew_no {most room : Int} (w : World) (h : limB most room = false) : RNewP most room w (.returned (.tuple #[.pointer none, .int .i64 7])) w := by
  unfold RNewP
  rw [if_neg (by rw [h]; decide)]
  exact ⟨rfl, rfl⟩

set_option maxHeartbeats 1000000 in
theorem rnew_any (most room : Int) (w : World) : Calls Try.prog 9 #[.int .i64 most, .int .i64 room] w (RNewP most room w) := by
  refine limB_cases most room _ (fun a1 hb => ?_) (fun a1 a2 hb => ?_) (fun a1 a2 a3 hb => ?_) (fun a1 a2 a3 a4 hb => ?_) (fun a1 a2 a3 a4 hb => ?_)
  · have e1 := decide_eq_true a1
    have HN := Lib.hid (rnew_no w hb)
    clear hb
    go_enter Try.func9, Try.ntmps9
    go_wp2_with fail
    go_ret2
    exact HN.out
  · have e1 := decide_eq_false a1
    have e2 := decide_eq_true a2
    have HN := Lib.hid (rnew_no w hb)
    clear hb
    go_enter Try.func9, Try.ntmps9
    go_wp2_with fail
    go_ret2
    exact HN.out
  · have e1 := decide_eq_false a1
    have e2 := decide_eq_false a2
    have e3 := decide_eq_true a3
    have HN := Lib.hid (rnew_no w hb)
    clear hb
    go_enter Try.func9, Try.ntmps9
    go_wp2_with fail
    go_ret2
    exact HN.out
  · have e1 := decide_eq_false a1
    have e2 := decide_eq_false a2
    have e3 := decide_eq_false a3
    have e4 := decide_eq_true a4
    have HN := Lib.hid (rnew_no w hb)
    clear hb
    go_enter Try.func9, Try.ntmps9
    go_wp2_with fail
    go_ret2
    exact HN.out
  · have e1 := decide_eq_false a1
    have e2 := decide_eq_false a2
    have e3 := decide_eq_false a3
    have e4 := decide_eq_false a4
    have HN := Lib.hid (rnew_ok w hb)
    clear hb
    go_enter Try.func9, Try.ntmps9
    go_wp2_with fail
    go_ret2
    exact HN.out

/-- What Held tells. -/
structure HeldR where
  body : ByteArray
  n : Int
  er : Int
def held (l : List Op) (id : Int) : HeldR := if numB id = true then (match idxO l id with | none => ⟨⟨#[]⟩, 0, 8⟩ | some i => ⟨(l.getD i default).body, (l.getD i default).pieces, 0⟩) else ⟨⟨#[]⟩, 0, 1⟩

def HeldP (w : World) (r : HeldR) (e : Ending) (w' : World) : Prop := e = .returned (.tuple #[.string r.body, .int .i64 r.n, .int .i64 r.er]) ∧ Below w.heap.size w w'

theorem getD_at {l : List Op} {i : Nat} (h : i < l.length) : l.getD i default = l[i] := by simp [List.getD, List.getElem?_eq_getElem h]

set_option maxRecDepth 100000 in
set_option maxHeartbeats 2000000 in
theorem rheld_any (b : Nat) (most room : Int) (sv : Value) (l : List Op) (id : Int) (F : Nat → Prop) (w : World) (h : RJ w F b most room sv l) (hl : l.length ≤ 100) :
    Calls Try.prog 13 #[.pointer (some ⟨b, 0, none⟩), .int .i64 id] w (HeldP w (held l id)) := by
  have FI := Lib.hid (rfind_any b most room sv l id F w h hl)
  unfold held
  by_cases h1 : id < 0
  · have e1 : decide (id < 0) = true := decide_eq_true h1
    have e3 : numB id = false := by unfold numB; rw [decide_eq_false (by omega : ¬ 0 ≤ id)]; rfl
    rw [if_neg (by rw [e3]; decide)]
    clear h
    go_enter Try.func13, Try.ntmps13
    go_wp2_with fail
    go_ret3
    exact ⟨rfl, Below.refl _ _⟩
  have e1 : decide (id < 0) = false := decide_eq_false h1
  by_cases h2 : 1000000 < id
  · have e2 : decide (1000000 < id) = true := decide_eq_true h2
    have e3 : numB id = false := by unfold numB; rw [decide_eq_false (by omega : ¬ id ≤ 1000000), Bool.and_false]
    rw [if_neg (by rw [e3]; decide)]
    clear h
    go_enter Try.func13, Try.ntmps13
    go_wp2_with fail
    go_ret3
    exact ⟨rfl, Below.refl _ _⟩
  have e2 : decide (1000000 < id) = false := decide_eq_false h2
  have e3 : numB id = true := by unfold numB; rw [decide_eq_true (by omega : 0 ≤ id), decide_eq_true (by omega : id ≤ 1000000)]; rfl
  rw [if_pos e3]
  unfold findO at FI
  cases hi : idxO l id with
  | none =>
    rw [hi] at FI
    simp only at FI
    clear h hi
    simp only
    go_enter Try.func13, Try.ntmps13
    go_wp2_with (go_at_call 30; refine FI.out.mono ?_; rintro e w1 ⟨rfl, hb1⟩; have HB1 := Lib.hid hb1; clear hb1)
    go_ret3
    exact ⟨rfl, HB1.out⟩
  | some i =>
    rw [hi] at FI
    simp only at FI
    obtain ⟨hlt, hq1, hq2⟩ := idxO_lt hi
    clear hq1 hq2
    have e4 : ¬ (i : Int) < 0 := by omega
    simp only
    rw [getD_at hlt]
    obtain ⟨_, hcells⟩ := h.form
    obtain ⟨g, cap, rfl, hg, c0, c1, c2⟩ := hcells i hlt
    have hb := h.few _ h.fb
    have d2 : w.cell? ⟨b, 2, none⟩ = some (.slice (some ⟨g, 0, none⟩) l.length cap) := cells_at h.blk 2
    have HH : Hid (∀ wx, Below w.heap.size w wx → wx.cell? ⟨b, 2, none⟩ = some (.slice (some ⟨g, 0, none⟩) l.length cap) ∧ wx.cell? ⟨g, i * 3, none⟩ = some (.int .i64 l[i].id) ∧ wx.cell? ⟨g, i * 3 + 1, none⟩ = some (.int .i64 l[i].pieces) ∧ wx.cell? ⟨g, i * 3 + 2, none⟩ = some (.string l[i].body)) :=
      Lib.hid fun wx hx => ⟨(hx.cell (p := ⟨b, 2, none⟩) hb).trans d2, (hx.cell (p := ⟨g, i * 3, none⟩) hg).trans c0, (hx.cell (p := ⟨g, i * 3 + 1, none⟩) hg).trans c1, (hx.cell (p := ⟨g, i * 3 + 2, none⟩) hg).trans c2⟩
    obtain ⟨x, hx⟩ : ∃ x, l[i] = x := ⟨_, rfl⟩
    rw [hx] at HH ⊢
    obtain ⟨xi, xp, xb⟩ := x
    simp only at HH ⊢
    have hk1 : (i : Int) < (l.length : Int) := by omega
    have hk0 : (0 : Int) ≤ (i : Int) := by omega
    clear h hi hx hcells d2 c0 c1 c2 hg hb
    go_enter Try.func13, Try.ntmps13
    go_wp2_with (go_at_call 30; refine FI.out.mono ?_; rintro e w1 ⟨rfl, hb1⟩; obtain ⟨m2, m3, m4, m5⟩ := HH.out _ hb1; have HB1 := Lib.hid hb1; clear hb1)
    go_quiet (fail)
    go_wp2_with fail
    go_ret3
    exact ⟨rfl, HB1.out.trans ((below_drewN' _ _).mono HB1.out.size)⟩

end Go.Proofs.Yteblbpdpfegooaa
