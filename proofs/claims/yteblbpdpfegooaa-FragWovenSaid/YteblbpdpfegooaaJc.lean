/- The reference's remove, New, Cancel, Held. -/
import Derived.Test.YteblbpdpfegooaaJb
namespace Go.Proofs.Yteblbpdpfegooaa
open Go.RowKit Go.BigFrame

/-- What a call of the reference's joiner leaves behind. -/
def RStep (w : World) (F : Nat → Prop) (b : Nat) (most room : Int) (l : List Op) (w' : World) : Prop :=
  ∃ F' sv, RJ w' F' b most room sv l ∧ (∀ k, F' k → F k ∨ w.heap.size ≤ k) ∧ But F w w'

theorem RStep.same {w w' : World} {F : Nat → Prop} {b : Nat} {most room : Int} {sv : Value} {l : List Op} (h : RJ w F b most room sv l) (hb : Below w.heap.size w w') : RStep w F b most room l w' :=
  ⟨F, sv, h.below hb, fun _ g => .inl g, But.of_below hb⟩

theorem RStep.then_below {w w' w2 : World} {F : Nat → Prop} {b : Nat} {most room : Int} {l : List Op} (h : RStep w F b most room l w') (hb : Below w'.heap.size w' w2) : RStep w F b most room l w2 := by
  obtain ⟨F', sv, h1, h2, h3⟩ := h
  exact ⟨F', sv, h1.below hb, h2, h3.then_below hb⟩

theorem RStep.after {w w1 w2 : World} {F : Nat → Prop} {b : Nat} {most room : Int} {l : List Op} (hb : Below w.heap.size w w1) (h : RStep w1 F b most room l w2) : RStep w F b most room l w2 := by
  obtain ⟨F', sv, h1, h2, h3⟩ := h
  exact ⟨F', sv, h1, fun k hk => (h2 k hk).imp id fun g => Nat.le_trans hb.size g, (But.of_below hb).trans h3 fun _ g => .inl g⟩

/-- What Cancel does. -/
def cancelE (l : List Op) (id : Int) : Int := if numB id = true then (match idxO l id with | none => 8 | some _ => 0) else 1
def cancelL (l : List Op) (id : Int) : List Op := if numB id = true then (match idxO l id with | none => l | some i => l.eraseIdx i) else l

theorem infoOp : (Try.prog.info? 72).map (fun i => (i.zero, i.size, i.bytes)) = some (some (.agg #[.int .i64 0, .int .i64 0, .string ⟨#[]⟩]), 3, 32) := by kernel_rfl

theorem under61 : Try.prog.underlying 61 = some (.slice 72) := by kernel_rfl

theorem cell_op_new {W : World} {b : Nat} {i pl : Int} {x : ByteArray} {t : TypeId} (h : W.heap[b]? = some (.cells #[.int .i64 i, .int .i64 pl, .string x] t (0, 0))) : ∀ (j : Nat) (u : Value), [Value.int .i64 i, .int .i64 pl, .string x][j]? = some u → W.cell? ((⟨b, 0, none⟩ : Addr).add j) = some u := by
  intro j u hu
  rw [add_none, cells_at h]
  rw [← hu]
  simp

theorem erase_take_other {l : List Op} {i k : Nat} (hk : k < l.length) (hne : ¬ k = i) : (l.take (k + 1)).eraseIdx i = (l.take k).eraseIdx i ++ [l[k]] := by
  rw [List.take_succ_eq_append_getElem hk]
  by_cases h : i < k
  · rw [List.eraseIdx_append_of_lt_length (by rw [List.length_take]; omega)]
  · rw [List.eraseIdx_append_of_length_le (by rw [List.length_take]; omega), List.length_take, Nat.min_eq_left (by omega)]
    rw [List.eraseIdx_of_length_le (l := l.take k) (by rw [List.length_take]; omega)]
    rw [List.eraseIdx_of_length_le (l := [l[k]]) (by simp; omega)]

theorem erase_take_same {l : List Op} {i : Nat} (hi : i < l.length) : (l.take (i + 1)).eraseIdx i = (l.take i).eraseIdx i := by
  rw [List.take_succ_eq_append_getElem hi, List.eraseIdx_append_of_length_le (by rw [List.length_take]; omega), List.length_take, Nat.min_eq_left (by omega)]
  rw [List.eraseIdx_of_length_le (l := l.take i) (by rw [List.length_take]; omega)]
  simp

theorem heap_alloc_two (w : World) (o o' : Obj) : ((w.alloc o).alloc o').heap[w.heap.size + 1]? = some o' := by
  have h := heap_alloc_new (w.alloc o) o'
  simpa using h

/-- Out so far. -/
structure RmI (w wr : World) (v : Value) (l : List Op) : Prop where
  own : wr.ownsRow w.heap.size 72 3 v l.length (opCells l)
  below : Below w.heap.size w wr

theorem RmI.later {w wr wx : World} {v : Value} {l : List Op} (h : RmI w wr v l) (hb : Below wr.heap.size wr wx) : RmI w wx v l :=
  ⟨ownsRow_below h.own hb, h.below.trans (hb.mono h.below.size)⟩

theorem RmI.grown {w wr wx : World} {v v' : Value} {l : List Op} {x : Op} (h : RmI w wr v l) (hg : wr.grownBy wx v.ownBlock) (ho : wx.ownsRow w.heap.size 72 3 v' (l.length + 1) (opCells l ++ [.int .i64 x.id, .int .i64 x.pieces, .string x.body])) : RmI w wx v' (l ++ [x]) :=
  ⟨by rw [List.length_append, List.length_singleton, opCells_snoc]; exact ho, below_grown h.below h.own hg (Nat.le_refl _)⟩

theorem RmI.form {w wr : World} {v : Value} {l : List Op} (h : RmI w wr v l) : ∃ a n c, v = .slice a n c := by
  rcases h.own.2 with ⟨hv, _⟩ | ⟨g, cap, cur, hv, _⟩
  · exact ⟨_, _, _, hv⟩
  · exact ⟨_, _, _, hv⟩

theorem RJ.set2 {W : World} {b : Nat} {m r sv : Value} (sv' : Value) (h : W.heap[b]? = some (.cells #[m, r, sv] 63 (0, 0))) : (W.setCell ⟨b, 2, none⟩ sv').heap[b]? = some (.cells #[m, r, sv'] 63 (0, 0)) := by
  obtain ⟨hlt, hk⟩ := Array.getElem?_eq_some_iff.1 h
  show (W.heap.modify b _)[b]? = _
  rw [Array.getElem?_eq_getElem (by rw [Array.size_modify]; exact hlt), Array.getElem_modify_self, hk]
  rfl

/-- A new row of messages is stored into the joiner. -/
theorem RStep.put {w wr : World} {F : Nat → Prop} {b : Nat} {most room : Int} {sv v : Value} {l m : List Op} (h : RJ w F b most room sv l) (hm : RmI w wr v m) : RStep w F b most room m (wr.setCell ⟨b, 2, none⟩ v) := by
  have hb := h.few _ h.fb
  have hbl := (hm.below.block b hb).trans h.blk
  refine ⟨fun k => k = b ∨ v.ownBlock = some k, v, ⟨RJ.set2 v hbl, ?_, .inl rfl, fun g hg => ⟨.inr hg, ?_⟩, ?_⟩, ?_, ?_⟩
  · have h9 := hm.own
    refine ⟨h9.1, ?_⟩
    rcases h9.2 with hn | ⟨g, cap, cur, hv, h0, hg, rest⟩
    · exact .inl hn
    · exact .inr ⟨g, cap, cur, hv, Nat.zero_le _, (Below.heap_setCell _ _ _ _ (by simp only; omega)).trans hg, rest⟩
  · have := (hm.own.lt g hg).1
    omega
  · rintro k (rfl | hk)
    · have := hm.below.size; simp [World.setCell]; omega
    · have := (hm.own.lt k hk).2; simp [World.setCell]; omega
  · rintro k (rfl | hk)
    · exact .inl h.fb
    · exact .inr (hm.own.lt k hk).1
  · exact (But.of_below hm.below).trans (But.setCell (F := F) wr ⟨b, 2, none⟩ v h.fb) fun _ g => .inl g

set_option maxRecDepth 100000 in
set_option maxHeartbeats 2000000 in
theorem rremove_any (b : Nat) (most room : Int) (sv : Value) (l : List Op) (i : Nat) (F : Nat → Prop) (w : World) (h : RJ w F b most room sv l) (hl : l.length ≤ 100) (hi : i < l.length) :
    Calls Try.prog 31 #[.pointer (some ⟨b, 0, none⟩), .int .i64 i] w fun e w' => e = .returned (.tuple #[]) ∧ RStep w F b most room (l.eraseIdx i) w' := by
  obtain ⟨⟨ao, cap, hv0⟩, hcells⟩ := h.form
  have HR := Lib.hid hcells
  have HJ := Lib.hid h
  subst hv0
  have c2 : w.cell? ⟨b, 2, none⟩ = some (.slice ao l.length cap) := cells_at h.blk 2
  obtain ⟨i0, hi0, hz0, hz1, hz2⟩ := info_parts infoOp
  clear h hcells
  have HI := Lib.hid hi
  clear hi
  go_enter Try.func31, Try.ntmps31
  go_wp2_with fail
  go_loopw [4, 12] (fun v j wr => ∃ k : Nat, j = .int .i64 k ∧ k ≤ l.length ∧ RmI w wr v ((l.take k).eraseIdx i)) (fun _ j _ => l.length - (intOf j).toNat)
  case atStart => exact ⟨0, rfl, Nat.zero_le _, by simpa [opCells] using World.ownsRow_nil _ _ _ _, Below.refl _ _⟩
  case round =>
    obtain ⟨k, rfl, hk, hrow⟩ := hrel
    have HW := Lib.hid hrow
    clear hrow
    by_cases hlt : k < l.length
    · clear c2
      obtain ⟨g, cap', hv, hg, c0, c1, c2⟩ := HR.out k hlt
      simp only [Value.slice.injEq] at hv
      obtain ⟨rfl, _, rfl⟩ := hv
      have d0 := (HW.out.below.cell (p := ⟨g, k * 3, none⟩) hg).trans c0
      have d1 := (HW.out.below.cell (p := ⟨g, k * 3 + 1, none⟩) hg).trans c1
      have d2 := (HW.out.below.cell (p := ⟨g, k * 3 + 2, none⟩) hg).trans c2
      clear c0 c1 c2
      obtain ⟨x, hx⟩ : ∃ x, l[k] = x := ⟨_, rfl⟩
      rw [hx] at d0 d1 d2
      obtain ⟨id, pc, bd⟩ := x
      simp only at d0 d1 d2
      have HX := Lib.hid hx
      have HLT := Lib.hid hlt
      have hk1 : (k : Int) < (l.length : Int) := by omega
      have hk2 : (k : Int) + 1 ≤ 1000 := by omega
      have hk0 : (0 : Int) ≤ (k : Int) := by omega
      have HA : ∀ cs, Hid (Below wr.heap.size wr (wr.alloc cs)) := fun cs => Lib.hid ((Below.refl _ _).alloc (Nat.le_refl _) _)
      clear hx hg
      by_cases he : k = i
      · subst he
        go_wp2_with fail
        exact ⟨⟨k + 1, by go_num, HLT.out, by rw [erase_take_same HLT.out]; exact HW.out.later (HA _).out⟩, by simp [intOf]; have := HLT.out; omega⟩
      · have HE := Lib.hid he
        have he3 : ¬ (k : Int) = (i : Int) := by omega
        have he2 : decide ((k : Int) = (i : Int)) = false := decide_eq_false he3
        have HLN : Hid (((l.take k).eraseIdx i).length ≤ 100) := Lib.hid (by
          have h1 : ((l.take k).eraseIdx i).length ≤ (l.take k).length := by rw [List.length_eraseIdx]; split <;> omega
          rw [List.length_take] at h1
          omega)
        have HST := Lib.hid (erase_take_other HLT.out he)
        rw [HX.out] at HST
        obtain ⟨m, hm⟩ : ∃ m, (l.take k).eraseIdx i = m := ⟨_, rfl⟩
        rw [hm] at HW HST HLN
        clear hm he
        have q0 : ∀ cs, (wr.alloc cs).cell? ⟨wr.heap.size, 0, none⟩ = (wr.alloc cs).cell? ⟨wr.heap.size, 0, none⟩ := fun _ => rfl
        clear q0
        go_wp2_with (at_builtin; refine wpList_append_own_at _ rfl _ _ 61 rfl w.heap.size 72 i0 (.agg #[.int .i64 0, .int .i64 0, .string ⟨#[]⟩]) 3 32 under61 hi0 hz0 hz1 hz2 rfl (by decide) _ _ _ rfl ((HW.out.later (HA _).out).own.alloc _) ⟨wr.heap.size + 1, 0, none⟩ 1 1 [.int .i64 id, .int .i64 pc, .string bd] rfl (by simp) (cell_op_new (heap_alloc_two _ _ _)) (by simp [Value.oneCell']) (by have := HLN.out; unfold maxLen; omega) (by have := HLN.out; omega) (by have := HW.out.below.size; simp; omega) ?_; intro v' w3 hown' hgrow _ _; have HT3 := Lib.hid (RmI.grown (x := ⟨id, pc, bd⟩) ((HW.out.later (HA _).out).later ((Below.refl _ _).alloc (Nat.le_refl _) _)) hgrow hown'); clear hown' hgrow)
        exact ⟨⟨k + 1, by go_num, HLT.out, by rw [HST.out]; exact HT3.out⟩, by simp [intOf]; have := HLT.out; omega⟩
    · obtain rfl : k = l.length := by omega
      rw [List.take_length] at HW
      have HB : Hid (b < w.heap.size) := Lib.hid (HJ.out.few _ HJ.out.fb)
      have d0 : wr.cell? ⟨b, 0, none⟩ = some (.int .i64 most) := (HW.out.below.cell (p := ⟨b, 0, none⟩) HB.out).trans (cells_at HJ.out.blk 0)
      have d1 : wr.cell? ⟨b, 1, none⟩ = some (.int .i64 room) := (HW.out.below.cell (p := ⟨b, 1, none⟩) HB.out).trans (cells_at HJ.out.blk 1)
      have d2 : wr.cell? ⟨b, 2, none⟩ = some (.slice ao l.length cap) := (HW.out.below.cell (p := ⟨b, 2, none⟩) HB.out).trans (cells_at HJ.out.blk 2)
      have fr : wr.frozen? ⟨b, 2, none⟩ = false := by have h1 := (HW.out.below.block b HB.out).trans HJ.out.blk; simp [World.frozen?, h1]
      clear c2
      obtain ⟨va, vn, vc, hvv⟩ := HW.out.form
      subst hvv
      have HR9 := Lib.hid (RStep.put HJ.out HW.out)
      go_wp2_with fail
      go_end0
      exact ⟨rfl, HR9.out⟩

set_option maxHeartbeats 1000000 in
theorem rcancel_any (b : Nat) (most room : Int) (sv : Value) (l : List Op) (id : Int) (F : Nat → Prop) (w : World) (h : RJ w F b most room sv l) (hl : l.length ≤ 100) :
    Calls Try.prog 11 #[.pointer (some ⟨b, 0, none⟩), .int .i64 id] w fun e w' => e = .returned (.int .i64 (cancelE l id)) ∧ RStep w F b most room (cancelL l id) w' := by
  have HS := Lib.hid (RStep.same h (Below.refl _ _))
  have FI := Lib.hid (rfind_any b most room sv l id F w h hl)
  unfold cancelE cancelL
  by_cases h1 : id < 0
  · have e1 : decide (id < 0) = true := decide_eq_true h1
    have e3 : numB id = false := by unfold numB; rw [decide_eq_false (by omega : ¬ 0 ≤ id)]; rfl
    rw [if_neg (by rw [e3]; decide), if_neg (by rw [e3]; decide)]
    clear h
    go_enter Try.func11, Try.ntmps11
    go_wp2_with fail
    go_ret
    exact ⟨rfl, HS.out⟩
  have e1 : decide (id < 0) = false := decide_eq_false h1
  by_cases h2 : 1000000 < id
  · have e2 : decide (1000000 < id) = true := decide_eq_true h2
    have e3 : numB id = false := by unfold numB; rw [decide_eq_false (by omega : ¬ id ≤ 1000000), Bool.and_false]
    rw [if_neg (by rw [e3]; decide), if_neg (by rw [e3]; decide)]
    clear h
    go_enter Try.func11, Try.ntmps11
    go_wp2_with fail
    go_ret
    exact ⟨rfl, HS.out⟩
  have e2 : decide (1000000 < id) = false := decide_eq_false h2
  have e3 : numB id = true := by unfold numB; rw [decide_eq_true (by omega : 0 ≤ id), decide_eq_true (by omega : id ≤ 1000000)]; rfl
  rw [if_pos e3, if_pos e3]
  unfold findO at FI
  cases hi : idxO l id with
  | none =>
    rw [hi] at FI
    simp only at FI
    clear h hi
    simp only
    go_enter Try.func11, Try.ntmps11
    go_wp2_with (go_at_call 30; refine FI.out.mono ?_; rintro e w1 ⟨rfl, hb1⟩; have HS1 := Lib.hid (HS.out.then_below hb1); clear hb1)
    go_ret
    exact ⟨rfl, HS1.out⟩
  | some i =>
    rw [hi] at FI
    simp only at FI
    obtain ⟨hlt, hq1, hq2⟩ := idxO_lt hi
    clear hq1 hq2
    have RM := Lib.hid fun wx (hx : Below w.heap.size w wx) => rremove_any b most room sv l i F wx (h.below hx) hl hlt
    have e4 : ¬ (i : Int) < 0 := by omega
    clear h hi hlt
    simp only
    go_enter Try.func11, Try.ntmps11
    go_wp2_with (first
      | (go_at_call 30; refine FI.out.mono ?_; rintro e w1 ⟨rfl, hb1⟩; have HB1 := Lib.hid hb1; clear hb1)
      | (go_at_call 31; refine (RM.out _ HB1.out).mono ?_; rintro e w2 ⟨rfl, hs2⟩; have HS2 := Lib.hid (RStep.after HB1.out hs2); clear hs2))
    go_ret
    exact ⟨rfl, HS2.out⟩

end Go.Proofs.Yteblbpdpfegooaa
