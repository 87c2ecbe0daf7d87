/-
  PROVED HERE: what the reference's put returns and writes.
-/
import Derived.Test.YtdklmeamhcgohaaP
namespace Go.Proofs.Ytdklmeamhcgohaa
open Go.RowKit

/-- p zero bytes as a string. -/
def zstr (p : Nat) : ByteArray := ⟨(List.replicate p (0 : UInt8)).toArray⟩
theorem zstr_size (p : Nat) : (zstr p).size = p := by
  show (List.replicate p (0 : UInt8)).toArray.size = p
  simp
theorem zstr_cells (p : Nat) : Lib.strCells (zstr p) = List.replicate p (Value.int .u8 0) := by
  simp [Lib.strCells, zstr]
theorem zero_cells (p : Nat) : Builtin.zeroCells (Value.int .u8 0).cells p = (List.replicate p (Value.int .u8 0)).toArray := by
  apply Array.ext'
  apply List.ext_getElem
  · simp [Builtin.zeroCells, Value.cells]
  · intro j h1 h2
    simp [Builtin.zeroCells, Value.cells, Nat.mod_one]

/-- 'append(x, make([]byte, p)...)' is the append of p zero bytes. -/
theorem run_append_zeros (w : World) (ty : TypeId) (ao : Option Addr) (k cap p : Nat) (hp : p ≤ 100) (hk : k ≤ 1000000000) :
    (Builtin.append_ #[54, 3] ty #[.slice ao k cap, .int .i64 p]).run Try.prog w = (Builtin.append_ #[54, 9] ty #[.slice ao k cap, .string (zstr p)]).run Try.prog w := by
  obtain ⟨i0, hi, hz0, hz1, hz2⟩ := info_parts Try.info5
  have hw : IntKind.i64.wrap (p : Int) = p := IntWalk.i64_in _ (by omega)
  have hf : ∀ w, (Builtin.firstCells 1 p (.string (zstr p))).run Try.prog w = .ok (List.replicate p (Value.int .u8 0)).toArray w := fun w => by
    have := Lib.run_firstCells_string (P := Try.prog) w 1 (zstr p)
    rw [zstr_size, zstr_cells] at this
    exact this
  have hai : ∀ w, (asInt (.int .i64 (p : Int))).run Try.prog w = .ok (p : Int) w := fun _ => rfl
  have hai0 : ∀ w, (asInt (.int .i64 0)).run Try.prog w = .ok 0 w := fun _ => rfl
  have hw0 : IntKind.i64.wrap 0 = 0 := IntWalk.i64_in _ (by omega)
  have hneg : ¬ ((p : Int) < 0) := by omega
  have h48 : ¬ (281474976710656 < (p : Int)) := by omega
  have h63 : ¬ (9223372036854775807 < ((k : Int) + (p : Int))) := by omega
  by_cases hr : k + p ≤ cap
  · by_cases h0 : p = 0
    · subst h0
      have hr' : k ≤ cap := by omega
      simp [Builtin.append_, run_underlying Try.underlying54, run_underlying Try.underlying3, run_underlying Try.underlying9, sizeOf, typeInfo, hi, hz1, hz2, Builtin.lenOf, zstr_size, hr', hf, zeroValue, hz0, hai0, hw0]
    · simp [Builtin.append_, run_underlying Try.underlying54, run_underlying Try.underlying3, run_underlying Try.underlying9, sizeOf, typeInfo, hi, hz1, hz2, Builtin.lenOf, zstr_size, hr, hf, hw, zeroValue, hz0, hai, hneg, h48, h0, zero_cells]
  · have h49 : ¬ (281474976710656 < Builtin.nextslicecap (k + p) cap) := by
      have := growslice_fits (need := k + p) (old := cap) (bytes := 1) (by omega) (by omega)
      omega
    by_cases h0 : p = 0
    · subst h0
      have hr' : ¬ k ≤ cap := by omega
      have h49' : ¬ (281474976710656 < Builtin.nextslicecap k cap) := h49
      have h63' : ¬ (9223372036854775807 < (k : Int)) := by omega
      simp [Builtin.append_, run_underlying Try.underlying54, run_underlying Try.underlying3, run_underlying Try.underlying9, sizeOf, typeInfo, hi, hz1, hz2, Builtin.lenOf, zstr_size, hr', hf, zeroValue, hz0, hai0, hw0, h49', h63']
    · simp [Builtin.append_, run_underlying Try.underlying54, run_underlying Try.underlying3, run_underlying Try.underlying9, sizeOf, typeInfo, hi, hz1, hz2, Builtin.lenOf, zstr_size, hr, hf, hw, zeroValue, hz0, hai, hneg, h48, h0, zero_cells, h63, h49]

section
variable {ops : Array Oper} {rest : List Oper} {o : Oper} {act : Act} {Q : Exit → Act → World → Prop} {w : World}

/-- .. at the operation, for the walk. -/
theorem wpList_append_zeros_at (hgd : o.guard = none) (sl x : Operand) (ho : o.op = .call { callee := .builtin .append, args := #[sl, x], argTypes := #[54, 3] })
    (v : Value) (n : Nat) (xs : List Value) (hs : act.eval sl = v) (hown : w.ownsRow 0 5 1 v n xs) (p : Nat) (hx : act.eval x = .int .i64 p) (hp : p ≤ 100) (hn : n ≤ 1000000000)
    (h : ∀ v' w', w'.ownsRow 0 5 1 v' (n + p) (xs ++ List.replicate p (Value.int .u8 0)) → w.grownBy w' v.ownBlock → (∀ g, v'.ownBlock = some g → v.ownBlock = some g ∨ w.heap.size ≤ g) → wpList Try.prog ops Q rest (act.put o.dst v') w') : wpList Try.prog ops Q (o :: rest) act w := by
  obtain ⟨i0, hi, hz0, hz1, hz2⟩ := info_parts Try.info5
  obtain ⟨ao, cap, rfl⟩ := ownsRow_form hown
  refine wpList_plain hgd fun K hK => ?_
  obtain ⟨v', w', hr, h2, h3, h4⟩ := append_string_at (P := Try.prog) (w := w) 54 9 o.type 5 i0 Try.underlying54 Try.underlying9 hi hz0 hz1 hz2 _ n xs hown (zstr p) (by rw [zstr_size]; unfold maxLen; omega) (by rw [zstr_size]; omega)
  rw [← run_append_zeros w o.type ao n cap p hp hn] at hr
  rw [zstr_size, zstr_cells] at h2
  unfold Oper.wp execOp
  simp only [ho, resolve, invoke, builtin, Sem.run_bind, Sem.run_pure, Result.andThen_ok, List.map_toArray, List.map_cons, List.map_nil, hs, hx, hr]
  exact hK _ _ (h v' w' h2 h3 h4)
end

set_option maxRecDepth 100000 in
set_option maxHeartbeats 1000000 in
theorem put_any (b : Nat) (big : Bool) (a n : Int) (s : ByteArray) (sv : Value) (out : List UInt8) (w : World) (h : RHolds w b big a sv out) (ha : 0 ≤ a) (ha2 : a ≤ 7) (hL : out.length ≤ 65536) (hz : szB n = true) (p : Nat) (hp : padN (a + out.length) n = p)
    (hs : s.size ≤ 1000000) (r : Bool) (hr : roomB a n s.size out.length = r) :
    Calls Try.prog 87 #[.pointer (some ⟨b, 0, none⟩), .string s, .int .i64 n] w fun e w' => ∃ sv', e = .returned (.int .i64 (cntC r)) ∧
      RHolds w' b big a sv' (cntOut r out p (bytesOf s)) ∧ Wrote w w' b sv sv' := by
  obtain ⟨i0, hi, hz0, hz1, hz2⟩ := info_parts Try.info5
  have hn := (szB_iff n).1 hz
  have hp8 : p < 8 := by have := padN_bd (a + out.length) n (by omega); omega
  have PD := Lib.hid fun w => pad35 (a + out.length) n w
  have e1 : padV (a + out.length) n = p := by rw [padV, if_neg (by omega), if_pos hz, hp]
  have e2 : padE (a + out.length) n = 0 := by rw [padE, if_neg (by omega), if_pos hz]
  rw [e1, e2] at PD
  have hsl := Lib.hid (bytesOf_length s)
  unfold roomB at hr
  rw [hp] at hr
  clear e1 e2 hp hn hz
  obtain ⟨ao, cap, rfl⟩ := h.form
  have c2 := h.1.c2
  cases r
  · have hr2 : 65536 < (out.length : Int) + (p : Int) + (s.size : Int) := by have := of_decide_eq_false hr; omega
    clear hr
    go_enter Try.func87, Try.ntmps87
    go_wp2_with (first | (go_at_call 16; refine (rplace_any b big a ao out.length cap _ h.1 ha ha2 (by omega)).mono ?_; rintro e w1 ⟨rfl, nq, rfl⟩) | (go_at_call 35; refine (PD.out _).mono ?_; rintro e w2 ⟨rfl, rfl⟩))
    go_ret
    exact ⟨_, rfl, h.drewN nq, (Wrote.refl w b _).drewN nq⟩
  · have hr2 : ¬ 65536 < (out.length : Int) + (p : Int) + (s.size : Int) := by have := of_decide_eq_true hr; omega
    clear hr
    go_enter Try.func87, Try.ntmps87
    go_wp2_with (first | (go_at_call 16; refine (rplace_any b big a ao out.length cap _ h.1 ha ha2 (by omega)).mono ?_; rintro e w1 ⟨rfl, nq, rfl⟩) | (go_at_call 35; refine (PD.out _).mono ?_; rintro e w2 ⟨rfl, rfl⟩) | (at_builtin; refine wpList_append_zeros_at rfl (.tmp 31) (.tmp 32) rfl _ _ _ rfl (h.drewN nq).2 p rfl (by omega) (by omega) ?_; intro v3 w3 hown3 hgrow3 hat3; obtain ⟨ao3, cap3, rfl⟩ := ownsRow_form hown3; obtain ⟨q1, q2, q3, q4⟩ := RAt.appendedS (h.drewN nq).1 (h.drewN nq).2 hown3 hgrow3 hat3; have c3 := q1.c2; have f3 := q1.f2; have c4 := q2.c2) | (at_builtin; refine wpList_append_string_at rfl (.tmp 40) (.tmp 41) 54 9 rfl 5 i0 Try.underlying54 Try.underlying9 hi hz0 hz1 hz2 _ _ _ rfl q3 s rfl (by unfold maxLen; omega) (by omega) ?_; intro v5 w5 hown5 hgrow5 hat5; obtain ⟨ao5, cap5, rfl⟩ := ownsRow_form hown5; obtain ⟨r1, r2, r3, r4⟩ := RAt.appendedS q2 q3 hown5 hgrow5 hat5; have c5 := r1.c2; have f5 := r1.f2))
    go_ret
    refine ⟨_, rfl, ⟨r2, ?_⟩, (((Wrote.refl w b _).drewN nq).trans q4).trans r4⟩
    have e1 : cntOut true out p (bytesOf s) = out ++ List.replicate p 0 ++ bytesOf s := by simp [cntOut]
    rw [e1, bcells_append, bcells_append, List.length_append, List.length_append, hsl.out, List.length_replicate]
    have e2 : bcells (List.replicate p (0 : UInt8)) = List.replicate p (Value.int .u8 0) := by simp [bcells]
    rw [e2]
    exact r3
end Go.Proofs.Ytdklmeamhcgohaa
