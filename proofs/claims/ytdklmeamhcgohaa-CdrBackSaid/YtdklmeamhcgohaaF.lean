/- The contracts of (*cdr.Writer).All, .counted, .Text, and of the sanity check awake. -/
import Derived.Test.YtdklmeamhcgohaaE
import Derived.Test.YtdklmeamhcgohaaShelf
import Derived.Lib.AppendStr
import Derived.Laws.IdiomStrings
import Derived.Lib.BufferRead
import Derived.WalkSpells
namespace Go.Proofs.Ytdklmeamhcgohaa
open Go.RowKit

/-- 'string(w.all)' -/
theorem Holds.conv {W : World} {b : Nat} {big : Bool} {a : Int} {sv : Value} {out : List UInt8} (h : Holds W b big a sv out) : (convert 54 9 sv).run Try.prog W = .ok (.string ⟨out.toArray⟩) W := by
  rcases h.2.2 with ⟨rfl, h0⟩ | ⟨g, cap, cur, rfl, _, hg, _, _, _, htk⟩
  · have : out = [] := List.eq_nil_of_length_eq_zero h0
    subst this
    exact Lib.run_convert_nil_bytes W 54 9 5 0 Try.underlying54 Try.underlying5 Try.underlying9
  · refine run_convert_bytes_back W 54 9 5 ⟨g, 0, none⟩ cap out Try.underlying54 Try.underlying5 Try.underlying9 fun j hj => ?_
    refine h.2.cells (g := g) rfl j _ ?_
    simp [bcells, hj]

set_option maxHeartbeats 400000 in
theorem all_any (b : Nat) (big : Bool) (a : Int) (sv : Value) (out : List UInt8) (w : World) (h : Holds w b big a sv out) :
    Calls Try.prog 17 #[.pointer (some ⟨b, 0, none⟩)] w fun e w' => e = .returned (.string ⟨out.toArray⟩) ∧ w = w' := by
  have hc := h.conv
  have c2 := h.1.c2
  obtain ⟨ao, cap, rfl⟩ := h.form
  clear h
  go_enter Try.func17, Try.ntmps17
  go_wp2
  go_ret
  exact ⟨rfl, rfl⟩

section
variable {P : Program} {ops : Array Oper} {rest : List Oper} {o : Oper} {act : Act} {Q : Exit → Act → World → Prop} {w : World}

/-- Appending a string's bytes, and where the new row lies. -/
theorem append_string_at (t u ty e : TypeId) (i : TypeInfo) (ht : P.underlying t = some (.slice e)) (hu : P.underlying u = some .string) (hi : P.info? e = some i) (hz : i.zero = some (.int .u8 0))
    (hsize : i.size = 1) (hby : i.bytes = 1) (v : Value) (n : Nat) (xs : List Value) (hown : w.ownsRow 0 e 1 v n xs) (s : ByteArray) (h63 : n + s.size ≤ maxLen) (hbytes : n + s.size ≤ 140737488355328) :
    ∃ v' w', (Builtin.append_ #[t, u] ty #[v, .string s]).run P w = .ok v' w' ∧ w'.ownsRow 0 e 1 v' (n + s.size) (xs ++ Lib.strCells s) ∧ w.grownBy w' v.ownBlock ∧
      (∀ g, v'.ownBlock = some g → v.ownBlock = some g ∨ w.heap.size ≤ g) := by
  rcases hown.2 with ⟨rfl, rfl⟩ | ⟨g, cap, cur, rfl, _, hg, hnc, hcm, hcs, _⟩
  · have hxl : xs = [] := List.eq_nil_of_length_eq_zero (by simpa using hown.1)
    subst hxl
    obtain ⟨v', w', hr, h2, h3, _⟩ := Lib.run_append_own_string (P := P) w w.heap.size t u ty e i ht hu hi hz hsize hby (.slice none 0 0) 0 [] (World.ownsRow_nil _ _ _ _) s h63 hbytes (Nat.le_refl _)
    refine ⟨v', w', hr, ⟨h2.1, ?_⟩, h3, fun g hg => .inr (h2.lt g hg).1⟩
    rcases h2.2 with h | ⟨g, cap, cur, hv, _, r⟩
    · exact .inl h
    · exact .inr ⟨g, cap, cur, hv, Nat.zero_le _, r⟩
  · obtain ⟨v', w', hr, h2, h3, _⟩ := Lib.run_append_own_string (P := P) w 0 t u ty e i ht hu hi hz hsize hby _ n xs hown s h63 hbytes (Nat.zero_le _)
    refine ⟨v', w', hr, h2, h3, fun k hk => ?_⟩
    by_cases hroom : n + s.size ≤ cap
    · have hcs' : cur.size = cap := by simpa using hcs
      have h1 := Lib.run_append_room_string (P := P) w t u ty e i ht hu hi hsize g n cap cur hg s hroom (by omega)
      rw [h1] at hr
      cases hr
      exact .inl hk
    · have holds : ∀ j u, xs[j]? = some u → w.cell? ((⟨g, 0, none⟩ : Addr).add j) = some u := hown.cells (g := g) rfl
      have h1 := Lib.run_append_grow_string (P := P) w t u ty e i (.int .u8 0) ht hu hi hz ⟨g, 0, none⟩ n cap xs (by rw [hsize]; simpa using hown.1) holds s (by omega) (by simp only [maxLen] at h63; omega) (by rw [hby]; exact growslice_fits (by omega) (by omega))
      rw [h1] at hr
      cases hr
      right
      have : w.heap.size = k := by simpa [Value.ownBlock] using hk
      omega

/-- .. at the operation, for the walk. -/
theorem wpList_append_string_at (hgd : o.guard = none) (sl x : Operand) (t u : TypeId) (ho : o.op = .call { callee := .builtin .append, args := #[sl, x], argTypes := #[t, u] })
    (e : TypeId) (i : TypeInfo) (ht : P.underlying t = some (.slice e)) (hu : P.underlying u = some .string) (hi : P.info? e = some i) (hz : i.zero = some (.int .u8 0))
    (hsize : i.size = 1) (hby : i.bytes = 1) (v : Value) (n : Nat) (xs : List Value) (hs : act.eval sl = v) (hown : w.ownsRow 0 e 1 v n xs) (s : ByteArray) (hx : act.eval x = .string s)
    (h63 : n + s.size ≤ maxLen) (hbytes : n + s.size ≤ 140737488355328)
    (h : ∀ v' w', w'.ownsRow 0 e 1 v' (n + s.size) (xs ++ Lib.strCells s) → w.grownBy w' v.ownBlock → (∀ g, v'.ownBlock = some g → v.ownBlock = some g ∨ w.heap.size ≤ g) → wpList P ops Q rest (act.put o.dst v') w') : wpList P ops Q (o :: rest) act w := by
  refine wpList_plain hgd fun K hK => ?_
  obtain ⟨v', w', hr, h2, h3, h4⟩ := append_string_at (P := P) (w := w) t u o.type e i ht hu hi hz hsize hby v n xs hown s h63 hbytes
  unfold Oper.wp execOp
  simp only [ho, resolve, invoke, builtin, Sem.run_bind, Sem.run_pure, Result.andThen_ok, List.map_toArray, List.map_cons, List.map_nil, hs, hx, hr]
  exact hK _ _ (h v' w' h2 h3 h4)
end

/-- BEHIND AN append OF A STRING AND THE STORE OF ITS RESULT INTO THE WRITER. -/
theorem WAt.appendedS {W w1 : World} {b : Nat} {big : Bool} {a : Int} {v v' : Value} {k m : Nat} {xs ys : List Value}
    (hv : WAt W b big a v) (hrow : W.ownsRow 0 5 1 v k xs) (hown' : w1.ownsRow 0 5 1 v' m ys) (hgrow : W.grownBy w1 v.ownBlock)
    (hat : ∀ g, v'.ownBlock = some g → v.ownBlock = some g ∨ W.heap.size ≤ g) :
    WAt w1 b big a v ∧ WAt (w1.setCell ⟨b, 2, none⟩ v') b big a v' ∧ (w1.setCell ⟨b, 2, none⟩ v').ownsRow 0 5 1 v' m ys ∧ Wrote W (w1.setCell ⟨b, 2, none⟩ v') b v v' := by
  have hv1 : WAt w1 b big a v := hv.kept hgrow (hv.not_row hrow)
  have hs := grownBy_setCell2 w1 ⟨b, 2, none⟩ v'
  exact ⟨hv1, hv1.set v', hown'.kept hs (.inr (hv1.not_row hown').symm), hs.os.trans hgrow.os, hs.tape.trans hgrow.tape, hs.output.trans hgrow.output, Nat.le_trans hgrow.size hs.size,
    fun i hi hb hne => (hs.block i (Nat.lt_of_lt_of_le hi hgrow.size) (fun e => hb (by simpa using e))).trans (hgrow.block i hi hne), hat⟩

theorem ownsRow_form {W : World} {base : Nat} {e : TypeId} {size : Nat} {v : Value} {k : Nat} {xs : List Value} (h : W.ownsRow base e size v k xs) : ∃ ao cap, v = .slice ao k cap := by
  rcases h.2 with ⟨rfl, rfl⟩ | ⟨g, cap, _, rfl, _⟩
  · exact ⟨none, 0, rfl⟩
  · exact ⟨_, cap, rfl⟩

/-- A string's bytes. -/
def bytesOf (s : ByteArray) : List UInt8 := s.data.toList
theorem bytesOf_length (s : ByteArray) : (bytesOf s).length = s.size := by simp [bytesOf]
theorem strCells_eq (s : ByteArray) : Lib.strCells s = bcells (bytesOf s) := rfl

/-- What writing bytes with their number returns and writes; r: there is room. -/
def cntC (r : Bool) : Int := if r then 0 else 4
def cntOut (r : Bool) (out : List UInt8) (p : Nat) (l : List UInt8) : List UInt8 := if r then out ++ List.replicate p 0 ++ l else out

set_option maxRecDepth 100000 in
set_option maxHeartbeats 1000000 in
theorem counted_any (b : Nat) (big : Bool) (a : Int) (s end' : ByteArray) (sv : Value) (out : List UInt8) (w : World) (h : Holds w b big a sv out) (ha : 0 ≤ a) (ha2 : a ≤ 7) (hL : out.length ≤ 65536) (p : Nat) (hp : padN (a + out.length) ((4 : Nat) : Int) = p)
    (hs : s.size ≤ 1000000) (he : end'.size ≤ 1000000) (r : Bool) (hr : roomB a 4 (4 + s.size + end'.size) out.length = r) :
    Calls Try.prog 84 #[.pointer (some ⟨b, 0, none⟩), .string s, .string end'] w fun e w' => ∃ sv', e = .returned (.int .i64 (cntC r)) ∧
      Holds w' b big a sv' (cntOut r out p (numB ((s.size : Int) + end'.size) big 4 ++ bytesOf s ++ bytesOf end')) ∧ Wrote w w' b sv sv' := by
  have HR := Lib.hid hr
  have HP := Lib.hid hp
  have hp8 : p < 8 := by have := padN_bd (a + out.length) ((4 : Nat) : Int) (by omega); omega
  clear hr hp
  obtain ⟨i0, hi, hz0, hz1, hz2⟩ := info_parts Try.info5
  cases r
  · go_enter Try.func84, Try.ntmps84
    go_wp2_with (go_at_call 85; refine (has_room b big a 4 (4 + s.size + end'.size) sv out _ h ha ha2 (by omega) (by omega) (by omega) (by omega) (by omega) false HR.out).mono ?_; rintro e w2 ⟨rfl, nq, rfl⟩)
    go_ret
    exact ⟨sv, rfl, h.drewN nq, (Wrote.refl w b sv).drewN nq⟩
  · go_enter Try.func84, Try.ntmps84
    go_wp2_with (go_at_call 85; refine (has_room b big a 4 (4 + s.size + end'.size) sv out _ h ha ha2 (by omega) (by omega) (by omega) (by omega) (by omega) true HR.out).mono ?_; rintro e w2 ⟨rfl, nq, rfl⟩)
    refine (add_any b big a ((s.size : Int) + end'.size) 4 sv out _ (h.drewN nq) ha ha2 (by omega) (by omega) (by omega) p HP.out).mono ?_
    rintro e w2 ⟨rfl, sv2, hh2, hw2⟩
    have hw02 : Wrote w w2 b sv sv2 := ((Wrote.refl w b sv).drewN nq).trans hw2
    obtain ⟨o2, ho2⟩ : ∃ o2, out ++ List.replicate p (0 : UInt8) ++ numB ((s.size : Int) + end'.size) big 4 = o2 := ⟨_, rfl⟩
    rw [ho2] at hh2
    have hl2 : o2.length ≤ 100000 := by rw [← ho2]; simp [numB, shs_length]; omega
    have HO2 := Lib.hid ho2
    clear ho2 hw2
    have c2 := hh2.1.c2
    obtain ⟨ao2, cap2, rfl⟩ := hh2.form
    have hsl := bytesOf_length s
    have hel := bytesOf_length end'
    have HSL := Lib.hid hsl
    have HEL := Lib.hid hel
    clear hsl hel
    go_wp2_with (first | (at_builtin; refine wpList_append_string_at rfl (.tmp 27) (.tmp 28) 54 9 rfl 5 i0 Try.underlying54 Try.underlying9 hi hz0 hz1 hz2 _ _ _ rfl hh2.2 s rfl (by unfold maxLen; omega) (by omega) ?_; intro v3 w3 hown3 hgrow3 hat3; obtain ⟨ao3, cap3, rfl⟩ := ownsRow_form hown3; obtain ⟨q1, q2, q3, q4⟩ := WAt.appendedS hh2.1 hh2.2 hown3 hgrow3 hat3; have c3 := q1.c2; have f3 := q1.f2; have c4 := q2.c2) | (at_builtin; refine wpList_append_string_at rfl (.tmp 36) (.tmp 37) 54 9 rfl 5 i0 Try.underlying54 Try.underlying9 hi hz0 hz1 hz2 _ _ _ rfl q3 end' rfl (by unfold maxLen; omega) (by omega) ?_; intro v5 w5 hown5 hgrow5 hat5; obtain ⟨ao5, cap5, rfl⟩ := ownsRow_form hown5; obtain ⟨r1, r2, r3, r4⟩ := WAt.appendedS q2 q3 hown5 hgrow5 hat5; have c5 := r1.c2; have f5 := r1.f2))
    go_ret
    refine ⟨_, rfl, ⟨r2, ?_⟩, (hw02.trans q4).trans r4⟩
    have e1 : cntOut true out p (numB ((s.size : Int) + end'.size) big 4 ++ bytesOf s ++ bytesOf end') = o2 ++ bytesOf s ++ bytesOf end' := by rw [← HO2.out]; simp [cntOut]
    rw [e1, bcells_append, bcells_append, List.length_append, List.length_append, HSL.out, HEL.out]
    exact r3

end Go.Proofs.Ytdklmeamhcgohaa
