/- The codings at what awake asks of them: codingOf, points, next, put. -/
import Derived.Test.YtnebjdjebnphnaaDoorKd
import Derived.Test.YtnebjdjebnphnaaDoorTa
import Derived.KernelRfl
namespace Go.Proofs.YtnebjdjebnphnaaDoor
set_option maxRecDepth 8000
open Go.RowKit Go.BigFrame

/-- A code set's coding. -/
def codV (n : Int) : Value := if n = 1 then .iface 77 (.agg #[.int .i64 127, .int .i64 0, .int .i64 0, .int .i64 0]) else if n = 2 then .iface 77 (.agg #[.int .i64 255, .int .i64 0, .int .i64 0, .int .i64 0]) else .iface 79 (.agg #[])

set_option maxHeartbeats 1000000 in
theorem codingOf_any (n : Int) (w : World) (h : n = 1 ∨ n = 2 ∨ n = 3) : Calls Tryd.prog 35 #[.int .i64 n] w fun e w' => e = .returned (codV n) ∧ w = w' := by
  rcases h with rfl | rfl | rfl
  · go_enter Tryd.func35, Tryd.ntmps35
    go_wp2
    go_ret
    exact ⟨rfl, rfl⟩
  · go_enter Tryd.func35, Tryd.ntmps35
    go_wp2
    go_ret
    exact ⟨rfl, rfl⟩
  · go_enter Tryd.func35, Tryd.ntmps35
    go_wp2
    go_ret
    exact ⟨rfl, rfl⟩

theorem points_any (n : Int) (s : ByteArray) (w : World) (h : n = 1 ∨ n = 2 ∨ n = 3) : Calls Tryd.prog 31 #[.int .i64 n, .string s] w fun e w' => e = .returned (.func (.func 45) #[] #[.pointer (some ⟨w.heap.size, 0, none⟩), .pointer (some ⟨w.heap.size + 1, 0, none⟩)]) ∧ w' = (w.alloc (.cells #[.string s] 9)).alloc (.cells #[codV n] 59) := by
  have CO := Lib.hid fun wx => codingOf_any n wx h
  obtain ⟨x, v, hc⟩ : ∃ x v, codV n = .iface x v := by
    rcases h with rfl | rfl | rfl <;> exact ⟨_, _, rfl⟩
  rw [hc] at CO ⊢
  clear h
  go_enter Tryd.func31, Tryd.ntmps31
  go_wp2_with (go_at_call 35; refine (CO.out _).mono ?_; rintro e w' ⟨rfl, rfl⟩)
  go_ret
  exact ⟨rfl, rfl⟩

set_option maxHeartbeats 1000000 in
theorem next_e4 (w : World) : Calls Tryd.prog 109 #[.agg #[.int .i64 255, .int .i64 0, .int .i64 0, .int .i64 0], .string ⟨#[228]⟩, .int .i64 0] w fun e w' => e = .returned (.tuple #[.int .i64 228, .int .i64 1]) ∧ Below w.heap.size w w' := by
  have e0 : ((⟨#[228]⟩ : ByteArray)[0]'(by decide)).toNat = 228 := rfl
  go_enter Tryd.func109, Tryd.ntmps109
  go_wp2
  go_ret2
  exact ⟨rfl, (Below.refl _ _).alloc (Nat.le_refl _) _⟩

theorem dec_a : Lib.decodeGo (ByteArray.extract ⟨#[97, 195, 164]⟩ 0 3) = (97, 1) := by decide +kernel
theorem dec_e4 : Lib.decodeGo (ByteArray.extract ⟨#[97, 195, 164]⟩ 1 3) = (228, 2) := by decide +kernel

set_option maxHeartbeats 1000000 in
theorem next_a (w : World) (h : Env w) : Calls Tryd.prog 111 #[.agg #[], .string ⟨#[97, 195, 164]⟩, .int .i64 0] w fun e w' => e = .returned (.tuple #[.int .i64 97, .int .i64 1]) ∧ Below w.heap.size w w' := by
  have HB : ∀ o, Hid (Below w.heap.size w (w.alloc o)) := fun o => Lib.hid ((Below.refl _ _).alloc (Nat.le_refl _) _)
  have D := Lib.hid fun wx (hx : Below w.heap.size w wx) => Tryd.utf8_DecodeRuneInString (ByteArray.extract ⟨#[97, 195, 164]⟩ 0 3) wx (h.below hx).tabs
  rw [dec_a] at D
  clear h
  go_enter Tryd.func111, Tryd.ntmps111
  go_wp2_with (go_at_call 77; refine (D.out _ (HB _).out).mono ?_; rintro e w' ⟨rfl, hb⟩; have HB2 := Lib.hid hb; clear hb)
  go_ret2
  exact ⟨rfl, (HB _).out.trans (HB2.out.mono (HB _).out.size)⟩

set_option maxHeartbeats 1000000 in
theorem next_c (w : World) (h : Env w) : Calls Tryd.prog 111 #[.agg #[], .string ⟨#[97, 195, 164]⟩, .int .i64 1] w fun e w' => e = .returned (.tuple #[.int .i64 228, .int .i64 2]) ∧ Below w.heap.size w w' := by
  have HB : ∀ o, Hid (Below w.heap.size w (w.alloc o)) := fun o => Lib.hid ((Below.refl _ _).alloc (Nat.le_refl _) _)
  have D := Lib.hid fun wx (hx : Below w.heap.size w wx) => Tryd.utf8_DecodeRuneInString (ByteArray.extract ⟨#[97, 195, 164]⟩ 1 3) wx (h.below hx).tabs
  rw [dec_e4] at D
  clear h
  go_enter Tryd.func111, Tryd.ntmps111
  go_wp2_with (go_at_call 77; refine (D.out _ (HB _).out).mono ?_; rintro e w' ⟨rfl, hb⟩; have HB2 := Lib.hid hb; clear hb)
  go_ret2
  exact ⟨rfl, (HB _).out.trans (HB2.out.mono (HB _).out.size)⟩

/-- Bytes were added to a row. -/
def PutPost (W : World) (base : Nat) (v : Value) (n : Nat) (xs ys : List Value) (e : Ending) (W' : World) : Prop :=
  ∃ v', e = .returned (.tuple #[v', .bool true]) ∧ W'.ownsRow base 5 1 v' (n + ys.length) (xs ++ ys) ∧ W.grownBy W' v.ownBlock
theorem grown_of {W W' : World} {o : Obj} {g : Option Nat} (h : (W.alloc o).grownBy W' g) : W.grownBy W' g :=
  ⟨h.os, h.tape, h.output, Nat.le_trans (by simp) h.size, fun k hk hn => (h.block k (by simp; omega) hn).trans (Below.heap_alloc _ _ _ hk)⟩

theorem info5 : (Tryd.prog.info? 5).map (fun i => (i.zero, i.size, i.bytes)) = some (some (.int .u8 0), 1, 1) := by kernel_rfl
theorem under61 : Tryd.prog.underlying 61 = some (.slice 5) := by kernel_rfl
theorem cell_byte_new {W : World} {b : Nat} {x : Value} {t : TypeId} (h : W.heap[b]? = some (.cells #[x] t (0, 0))) : ∀ (j : Nat) (u : Value), [x][j]? = some u → W.cell? ((⟨b, 0, none⟩ : Addr).add j) = some u := by
  intro j u hu
  rw [add_none, cells_at h]
  rw [← hu]
  simp

set_option maxRecDepth 100000 in
set_option maxHeartbeats 2000000 in
theorem put_a (w : World) (base : Nat) (v : Value) (n : Nat) (xs : List Value) (ho : w.ownsRow base 5 1 v n xs) (hn : n ≤ 1000) (hb : base ≤ w.heap.size) :
    Calls Tryd.prog 110 #[.agg #[.int .i64 127, .int .i64 0, .int .i64 0, .int .i64 0], v, .int .i64 97] w (PutPost w base v n xs [.int .u8 97]) := by
  obtain ⟨i0, hi0, hz0, hz1, hz2⟩ := info_parts info5
  have HO := Lib.hid ho
  have HN := Lib.hid hn
  have HB := Lib.hid hb
  clear ho hn hb
  go_enter Tryd.func110, Tryd.ntmps110
  go_wp2_with (at_builtin; refine wpList_append_own_at _ rfl _ _ 61 rfl base 5 i0 (.int .u8 0) 1 1 under61 hi0 hz0 hz1 hz2 rfl (by decide) _ _ _ rfl ((HO.out.alloc _).alloc _) ⟨w.heap.size + 1, 0, none⟩ 1 1 [.int .u8 97] rfl (by simp) (cell_byte_new (by have := World.alloc_heap_new (w.alloc (.cells #[.int .i64 127, .int .i64 0, .int .i64 0, .int .i64 0] 77)) (.cells #[.int .u8 97] 5); rwa [World.size_alloc] at this)) (by simp [Value.oneCell']) (by have := HN.out; unfold maxLen; omega) (by have := HN.out; omega) (by have := HB.out; simp; omega) ?_; intro v' w3 hown' hgrow _ _; have HO3 := Lib.hid hown'; have HG3 := Lib.hid hgrow; clear hown' hgrow)
  go_ret2
  exact ⟨_, rfl, HO3.out, grown_of (grown_of HG3.out)⟩

set_option maxHeartbeats 1000000 in
theorem put_no (w : World) (v : Value) : Calls Tryd.prog 110 #[.agg #[.int .i64 127, .int .i64 0, .int .i64 0, .int .i64 0], v, .int .i64 228] w fun e w' => e = .returned (.tuple #[v, .bool false]) ∧ Below w.heap.size w w' := by
  go_enter Tryd.func110, Tryd.ntmps110
  go_wp2
  go_ret2
  exact ⟨rfl, (Below.refl _ _).alloc (Nat.le_refl _) _⟩

theorem rune_e4 : Lib.runeCells 228 = [.int .u8 195, .int .u8 164] := by kernel_rfl

set_option maxRecDepth 100000 in
set_option maxHeartbeats 1000000 in
theorem isPoint_e4 (w : World) : Calls Tryd.prog 113 #[.int .i64 228] w fun e w' => e = .returned (.bool true) ∧ w = w' := by
  go_enter Tryd.func113, Tryd.ntmps113
  go_wp2
  go_ret
  exact ⟨rfl, rfl⟩

set_option maxRecDepth 100000 in
set_option maxHeartbeats 2000000 in
theorem put_e4 (w : World) (base : Nat) (v : Value) (n : Nat) (xs : List Value) (ho : w.ownsRow base 5 1 v n xs) (hn : n ≤ 1000) (hb : base ≤ w.heap.size) :
    Calls Tryd.prog 112 #[.agg #[], v, .int .i64 228] w (PutPost w base v n xs [.int .u8 195, .int .u8 164]) := by
  have HO := Lib.hid fun o => Tryd.utf8_AppendRune_plain base v n xs 228 (by decide) (by decide) (w.alloc o) (ho.alloc _) (by omega) (by simp; omega)
  rw [rune_e4] at HO
  clear ho hn hb
  go_enter Tryd.func112, Tryd.ntmps112
  go_wp2_with (first
    | (go_at_call 113; refine (isPoint_e4 _).mono ?_; rintro e w' ⟨rfl, rfl⟩)
    | (go_at_call 114; refine (HO.out _).mono ?_; rintro e w3 ⟨v', rfl, hown, o, hg⟩; have HO3 := Lib.hid hown; have HG3 := Lib.hid hg; clear hown hg))
  go_ret2
  exact ⟨_, rfl, HO3.out, grown_of (grown_of HG3.out)⟩

end Go.Proofs.YtnebjdjebnphnaaDoor
