/- Names of code sets; numbers in memory; isSet, is, Name, Set, has, SameInts. -/
import Derived.Test.YtnebjdjebnphnaaDoorProg
import Derived.WalkKit
import Derived.Lib.Hide
import Derived.Below
import Derived.IntWalk
import Derived.BigQuiet
import Derived.Deep.QuietTactic
import Derived.LoopTactic
import Derived.Lib.QuietBelow
import Derived.OwnWalk
import Derived.Laws.AppendOwn
import Derived.Laws.AppendOwnNone
import Derived.RangeFuncBox
import Derived.Lib.Strings
namespace Go.Proofs.YtnebjdjebnphnaaDoor
set_option maxRecDepth 8000
open Go.RowKit Go.BigFrame

theorem ret_bool {a b : Bool} (h : a = b) : Ending.returned (.bool a) = .returned (.bool b) := by rw [h]
theorem ret_int {k : IntKind} {a b : Int} (h : a = b) : Ending.returned (.int k a) = .returned (.int k b) := by rw [h]
theorem below_drewN' (W : World) (n : Nat) : Below W.heap.size W (W.drewN n) := ⟨rfl, rfl, rfl, Nat.le_refl _, fun _ _ => rfl⟩
theorem cells_at {W : World} {g : Nat} {cs : Array Value} {t : TypeId} (h : W.heap[g]? = some (.cells cs t (0, 0))) (i : Nat) : W.cell? ⟨g, i, none⟩ = cs[i]? := by simp [World.cell?, h]
theorem add_none (b o j : Nat) : (⟨b, o, none⟩ : Addr).add j = ⟨b, o + j, none⟩ := by unfold Addr.add; split <;> simp_all
theorem belowGrown {W W' : World} (h : Below W.heap.size W W') : W.grownBy W' none := ⟨h.os, h.tape, h.output, h.size, fun k hk _ => h.block k hk⟩
theorem ownsRow_below {W W' : World} {base : Nat} {e : TypeId} {size : Nat} {v : Value} {n : Nat} {xs : List Value} (h : W.ownsRow base e size v n xs) (hb : Below W.heap.size W W') : W'.ownsRow base e size v n xs :=
  h.kept (belowGrown hb) (by cases hv : v.ownBlock with
    | none => exact .inl rfl
    | some g => exact .inr (by simp))
theorem below_grown {w wr wx : World} {base n size : Nat} {e : TypeId} {sv : Value} {xs : List Value} (h : Below w.heap.size w wr) (ho : wr.ownsRow base e size sv n xs) (hg : wr.grownBy wx sv.ownBlock) (hb : w.heap.size ≤ base) : Below w.heap.size w wx :=
  ⟨hg.os.trans h.os, hg.tape.trans h.tape, hg.output.trans h.output, Nat.le_trans h.size hg.size, fun j hj => (hg.block j (Nat.lt_of_lt_of_le hj h.size) fun e => by
    have := (ho.lt j e.symm).1
    omega).trans (h.block j hj)⟩

/-- Is it a code set? -/
def isSetB (n : Int) : Bool := decide (1 ≤ n) && decide (n ≤ 5)
/-- Its name. -/
def nameB (n : Int) : ByteArray := if n = 1 then ⟨#[97, 115, 99, 105, 105]⟩ else if n = 2 then ⟨#[108, 97, 116, 105, 110]⟩ else if n = 3 then ⟨#[117, 116, 102, 56]⟩ else if n = 4 then ⟨#[117, 116, 102, 49, 54]⟩ else if n = 5 then ⟨#[103, 114, 101, 101, 107]⟩ else ⟨#[]⟩
/-- The code set with a name, from a number on. -/
def setFrom (s : ByteArray) : Nat → Nat → Int
  | 0, _ => 0
  | f + 1, k => if nameB (k : Int) = s then k else setFrom s f (k + 1)
def setN (s : ByteArray) : Int := setFrom s 5 1
def setE (s : ByteArray) : Int := if setN s = 0 then 5 else 0

/-- WHAT THE PACKAGE's TABLE HOLDS. -/
def NamesAt (W : World) : Prop := 0 < W.heap.size ∧ ∀ k : Nat, k < 6 → W.cell? ⟨0, k, none⟩ = some (.string (nameB k))
theorem NamesAt.below {W W' : World} {B : Nat} (h : NamesAt W) (hb : Below B W W') (hB : 0 < B) : NamesAt W' := ⟨Nat.lt_of_lt_of_le h.1 hb.size, fun k hk => (hb.cell hB).trans (h.2 k hk)⟩

/-- Numbers lie at a place. -/
def IntsAt (W : World) (b off : Nat) (l : List Int) : Prop := ∀ i (h : i < l.length), W.cell? ⟨b, off + i, none⟩ = some (.int .i64 l[i])
def IntRow (W : World) (ao : Option Addr) (l : List Int) : Prop := l = [] ∨ ∃ b off, ao = some ⟨b, off, none⟩ ∧ b < W.heap.size ∧ IntsAt W b off l
theorem IntsAt.below {W W' : World} {B b off : Nat} {l : List Int} (h : IntsAt W b off l) (hb : Below B W W') (hB : b < B) : IntsAt W' b off l := fun i hi => (hb.cell hB).trans (h i hi)
theorem IntRow.below {W W' : World} {ao : Option Addr} {l : List Int} (h : IntRow W ao l) (hb : Below W.heap.size W W') : IntRow W' ao l := by
  rcases h with h | ⟨b, off, h0, h1, h2⟩
  · exact .inl h
  · exact .inr ⟨b, off, h0, Nat.lt_of_lt_of_le h1 hb.size, h2.below hb h1⟩
theorem IntRow.take {W : World} {ao : Option Addr} {l : List Int} (h : IntRow W ao l) (k : Nat) : IntRow W ao (l.take k) := by
  rcases h with h | ⟨b, off, h0, h1, h2⟩
  · exact .inl (by rw [h, List.take_nil])
  · refine .inr ⟨b, off, h0, h1, fun i hi => ?_⟩
    rw [List.getElem_take]
    exact h2 i (by rw [List.length_take] at hi; omega)

set_option maxHeartbeats 400000 in
theorem isSet_any (k : Int) (w : World) : Calls Tryd.prog 34 #[.int .i64 k] w fun e w' => e = .returned (.bool (isSetB k)) ∧ w = w' := by
  by_cases h : 1 ≤ k
  · have HF : Hid (decide (k ≤ 5) = isSetB k) := Lib.hid (by simp [isSetB, h])
    go_enter Tryd.func34, Tryd.ntmps34
    go_wp2
    go_ret
    exact ⟨ret_bool HF.out, rfl⟩
  · have HF : Hid (false = isSetB k) := Lib.hid (by simp [isSetB, h])
    go_enter Tryd.func34, Tryd.ntmps34
    go_wp2
    go_ret
    exact ⟨ret_bool HF.out, rfl⟩

set_option maxHeartbeats 400000 in
theorem ris_any (k : Int) (w : World) : Calls Tryd.prog 41 #[.int .i64 k] w fun e w' => e = .returned (.bool (isSetB k)) ∧ w = w' := by
  by_cases h : 1 ≤ k
  · have HF : Hid (decide (k ≤ 5) = isSetB k) := Lib.hid (by simp [isSetB, h])
    go_enter Tryd.func41, Tryd.ntmps41
    go_wp2
    go_ret
    exact ⟨ret_bool HF.out, rfl⟩
  · have HF : Hid (false = isSetB k) := Lib.hid (by simp [isSetB, h])
    go_enter Tryd.func41, Tryd.ntmps41
    go_wp2
    go_ret
    exact ⟨ret_bool HF.out, rfl⟩

set_option maxHeartbeats 1000000 in
theorem rname_any (k : Int) (w : World) : Calls Tryd.prog 14 #[.int .i64 k] w fun e w' => e = .returned (.string (nameB k)) ∧ w = w' := by
  by_cases h1 : k = 1
  · subst h1
    go_enter Tryd.func14, Tryd.ntmps14
    go_wp2
    go_ret
    exact ⟨rfl, rfl⟩
  by_cases h2 : k = 2
  · subst h2
    go_enter Tryd.func14, Tryd.ntmps14
    go_wp2
    go_ret
    exact ⟨rfl, rfl⟩
  by_cases h3 : k = 3
  · subst h3
    go_enter Tryd.func14, Tryd.ntmps14
    go_wp2
    go_ret
    exact ⟨rfl, rfl⟩
  by_cases h4 : k = 4
  · subst h4
    go_enter Tryd.func14, Tryd.ntmps14
    go_wp2
    go_ret
    exact ⟨rfl, rfl⟩
  by_cases h5 : k = 5
  · subst h5
    go_enter Tryd.func14, Tryd.ntmps14
    go_wp2
    go_ret
    exact ⟨rfl, rfl⟩
  have HF : Hid (nameB k = ⟨#[]⟩) := Lib.hid (by unfold nameB; rw [if_neg h1, if_neg h2, if_neg h3, if_neg h4, if_neg h5])
  go_enter Tryd.func14, Tryd.ntmps14
  go_wp2
  go_ret
  exact ⟨by rw [HF.out]; rfl, rfl⟩

theorem ne_toList {a b : ByteArray} (h : ¬ a = b) : (a.toList == b.toList) = false := by
  cases hc : a.toList == b.toList with
  | false => rfl
  | true =>
    have := eq_of_beq hc
    rw [Lib.toList_data, Lib.toList_data] at this
    exact absurd (ByteArray.ext (Array.toList_inj.1 this)) h
theorem eq_toList {a b : ByteArray} (h : a = b) : (a.toList == b.toList) = true := by subst h; exact beq_self_eq_true _

def SetPost (s : ByteArray) (e : Ending) : Prop := e = .returned (.tuple #[.int .i64 (setN s), .int .i64 (setE s)])
theorem SetPost.hit {s : ByteArray} {k : Nat} {e : Ending} (hl : setFrom s (6 - k) k = setN s) (h1 : 1 ≤ k) (hk : k < 6) (hn : nameB k = s) (he : e = .returned (.tuple #[.int .i64 k, .int .i64 0])) : SetPost s e := by
  have : setN s = k := by
    rw [← hl, show 6 - k = (5 - k) + 1 by omega, setFrom, if_pos hn]
  unfold SetPost setE
  rw [he, this, if_neg (by omega)]
theorem SetPost.miss {s : ByteArray} {e : Ending} (hl : setFrom s (6 - 6) 6 = setN s) (he : e = .returned (.tuple #[.int .i64 0, .int .i64 5])) : SetPost s e := by
  have : setN s = 0 := by rw [← hl]; rfl
  unfold SetPost setE
  rw [he, this, if_pos rfl]
theorem setFrom_next {s : ByteArray} {k : Nat} (hk : k < 6) (hn : ¬ nameB k = s) : setFrom s (6 - k) k = setFrom s (6 - (k + 1)) (k + 1) := by
  rw [show 6 - k = (6 - (k + 1)) + 1 by omega, setFrom, if_neg hn]

set_option maxHeartbeats 4000000 in
theorem set_any (s : ByteArray) (w : World) (h : NamesAt w) : Calls Tryd.prog 27 #[.string s] w fun e w' => SetPost s e ∧ w = w' := by
  have HN := Lib.hid h
  clear h
  go_enter Tryd.func27, Tryd.ntmps27
  go_wp2_with fail
  go_loopw [2, 3, 4] (fun r e i wr => r = .int .i64 0 ∧ e = .int .i64 0 ∧ wr = w ∧ ∃ k : Nat, i = .int .i64 k ∧ 1 ≤ k ∧ k ≤ 6 ∧ setFrom s (6 - k) k = setN s) (fun _ _ i _ => 6 - (intOf i).toNat)
  case atStart => exact ⟨rfl, rfl, rfl, 1, rfl, by omega, by omega, rfl⟩
  case round =>
    obtain ⟨rfl, rfl, rfl, k, rfl, h1, h6, hl⟩ := hrel
    have HL := Lib.hid hl
    have H1 := Lib.hid h1
    clear hl
    by_cases hlt : k < 6
    · have c0 := HN.out.2 k hlt
      have e1 : decide ((k : Int) ≤ 5) = true := decide_eq_true (by omega)
      have e2 : (k : Int) ≤ 5 := by omega
      have e3 : (k : Int) < 6 := by omega
      have e4 : (0 : Int) ≤ (k : Int) := by omega
      have HK := Lib.hid hlt
      obtain ⟨nm, hnm⟩ : ∃ nm, nameB (k : Int) = nm := ⟨_, rfl⟩
      rw [hnm] at c0
      have HNM := Lib.hid hnm
      clear h1 h6 hnm
      by_cases hn : nm = s
      · have e5 := eq_toList hn
        have HE := Lib.hid hn
        clear hn
        go_wp2_with fail
        go_ret2
        exact ⟨SetPost.hit HL.out H1.out HK.out (HNM.out.trans HE.out) rfl, rfl⟩
      · have e5 := ne_toList hn
        have HE := Lib.hid hn
        clear hn
        go_wp2_with fail
        go_roundw
        case rel => exact ⟨by trivial, by trivial, by trivial, k + 1, by go_num, by omega, HK.out, by rw [← setFrom_next HK.out (by rw [HNM.out]; exact HE.out)]; exact HL.out⟩
        case measure => simp [intOf]; have := HK.out; omega
    · obtain rfl : k = 6 := by omega
      go_wp2_with fail
      go_ret2
      exact ⟨SetPost.miss HL.out rfl, rfl⟩

set_option maxHeartbeats 4000000 in
theorem rset_any (s : ByteArray) (w : World) : Calls Tryd.prog 28 #[.string s] w fun e w' => SetPost s e ∧ w = w' := by
  go_enter Tryd.func28, Tryd.ntmps28
  go_wp2_with fail
  go_loopw [2, 3, 4] (fun r e i wr => r = .int .i64 0 ∧ e = .int .i64 0 ∧ wr = w ∧ ∃ k : Nat, i = .int .i64 k ∧ 1 ≤ k ∧ k ≤ 6 ∧ setFrom s (6 - k) k = setN s) (fun _ _ i _ => 6 - (intOf i).toNat)
  case atStart => exact ⟨rfl, rfl, rfl, 1, rfl, by omega, by omega, rfl⟩
  case round =>
    obtain ⟨rfl, rfl, rfl, k, rfl, h1, h6, hl⟩ := hrel
    have HL := Lib.hid hl
    have H1 := Lib.hid h1
    clear hl
    by_cases hlt : k < 6
    · have e1 : decide ((k : Int) ≤ 5) = true := decide_eq_true (by omega)
      have e2 : (k : Int) ≤ 5 := by omega
      have HK := Lib.hid hlt
      have RN := Lib.hid (rname_any (k : Int))
      obtain ⟨nm, hnm⟩ : ∃ nm, nameB (k : Int) = nm := ⟨_, rfl⟩
      rw [hnm] at RN
      have HNM := Lib.hid hnm
      clear h1 h6 hnm
      by_cases hn : nm = s
      · have e5 := eq_toList hn
        have HE := Lib.hid hn
        clear hn
        go_wp2_with (go_at_call 14; refine (RN.out _).mono ?_; rintro e w' ⟨rfl, rfl⟩)
        go_ret2
        exact ⟨SetPost.hit HL.out H1.out HK.out (HNM.out.trans HE.out) rfl, rfl⟩
      · have e5 := ne_toList hn
        have HE := Lib.hid hn
        clear hn
        go_wp2_with (go_at_call 14; refine (RN.out _).mono ?_; rintro e w' ⟨rfl, rfl⟩)
        go_roundw
        case rel => exact ⟨by trivial, by trivial, by trivial, k + 1, by go_num, by omega, HK.out, by rw [← setFrom_next HK.out (by rw [HNM.out]; exact HE.out)]; exact HL.out⟩
        case measure => simp [intOf]; have := HK.out; omega
    · obtain rfl : k = 6 := by omega
      go_wp2_with fail
      go_ret2
      exact ⟨SetPost.miss HL.out rfl, rfl⟩

/-- Is it among them? -/
def hasI (l : List Int) (x : Int) : Bool := l.contains x
/-- What is left to look at. -/
theorem contains_take {l : List Int} {k : Nat} {x : Int} (h : k < l.length) (h0 : hasI (l.take k) x = false) (hx : ¬ l[k] = x) : hasI (l.take (k + 1)) x = false := by
  unfold hasI at h0 ⊢
  rw [List.take_succ_eq_append_getElem h]
  simp only [List.contains_eq_mem, decide_eq_false_iff_not, List.mem_append, List.mem_singleton] at h0 ⊢
  rintro (g | g)
  · exact h0 g
  · exact hx g.symm
theorem contains_at {l : List Int} {k : Nat} {x : Int} (h : k < l.length) (hx : l[k] = x) : true = hasI l x := by
  unfold hasI
  simp only [List.contains_eq_mem]
  exact (decide_eq_true (hx ▸ List.getElem_mem h)).symm

set_option maxRecDepth 100000 in
set_option maxHeartbeats 4000000 in
theorem rhas_any (ao : Option Addr) (cap : Nat) (l : List Int) (x : Int) (w : World) (h1 : IntRow w ao l) (hl : l.length ≤ 2000) :
    Calls Tryd.prog 42 #[.slice ao l.length cap, .int .i64 x] w fun e w' => e = .returned (.bool (hasI l x)) ∧ w = w' := by
  have H1 := Lib.hid h1
  clear h1
  go_enter Tryd.func42, Tryd.ntmps42
  go_wp2_with fail
  go_loopw [4, 9] (fun r i wr => r = .bool false ∧ wr = w ∧ ∃ k : Nat, i = .int .i64 k ∧ k ≤ l.length ∧ hasI (l.take k) x = false) (fun _ i _ => l.length - (intOf i).toNat)
  case atStart => exact ⟨rfl, rfl, 0, rfl, Nat.zero_le _, rfl⟩
  case round =>
    obtain ⟨rfl, rfl, k, rfl, hk, hno⟩ := hrel
    have HNO := Lib.hid hno
    clear hno
    by_cases hlt : k < l.length
    · rcases H1.out with h0 | ⟨b, off, rfl, hb, hp⟩
      · subst h0; exact absurd hlt (by simp)
      have HLT := Lib.hid hlt
      have hk1 : (k : Int) < (l.length : Int) := by omega
      have hk2 : (k : Int) + 1 ≤ 2001 := by omega
      have hk0 : (0 : Int) ≤ (k : Int) := by omega
      have HX : Hid (∀ y, l[k] = y → (y = x → true = hasI l x) ∧ (¬ y = x → hasI (l.take (k + 1)) x = false)) := Lib.hid fun y hy => ⟨fun g => contains_at hlt (hy.trans g), fun g => contains_take hlt HNO.out fun e => g (hy.symm.trans e)⟩
      obtain ⟨y, hy⟩ : ∃ y, l[k] = y := ⟨_, rfl⟩
      have c0 : wr.cell? ⟨b, off + k, none⟩ = some (.int .i64 y) := by subst hy; exact hp k hlt
      have HY := Lib.hid (HX.out y hy)
      clear hy hp HX
      by_cases hyx : y = x
      · have HC := Lib.hid (HY.out.1 hyx)
        subst hyx
        go_wp2_with fail
        go_ret
        exact ⟨ret_bool HC.out, rfl⟩
      · have HC := Lib.hid (HY.out.2 hyx)
        go_wp2_with fail
        go_roundw
        case rel => exact ⟨by trivial, by trivial, k + 1, by go_num, HLT.out, HC.out⟩
        case measure => simp [intOf]; have := HLT.out; omega
    · obtain rfl : k = l.length := by omega
      rw [List.take_length] at HNO
      go_wp2_with fail
      go_ret
      exact ⟨ret_bool HNO.out.symm, rfl⟩

set_option maxRecDepth 100000 in
set_option maxHeartbeats 4000000 in
/-- SameInts of two rows of the same numbers. -/
theorem sameI_eq (ao1 ao2 : Option Addr) (cap1 cap2 : Nat) (l : List Int) (w : World) (h1 : IntRow w ao1 l) (h2 : IntRow w ao2 l) (hl : l.length ≤ 2000) :
    Calls Tryd.prog 12 #[.slice ao1 l.length cap1, .slice ao2 l.length cap2] w fun e w' => e = .returned (.bool true) ∧ Below w.heap.size w w' := by
  have H1 := Lib.hid h1
  have H2 := Lib.hid h2
  clear h1 h2
  go_enter Tryd.func12, Tryd.ntmps12
  go_wp2_with fail
  go_loopw [13] (fun i wr => ∃ k : Nat, i = .int .i64 k ∧ k ≤ l.length ∧ Below w.heap.size w wr) (fun i _ => l.length - (intOf i).toNat)
  case atStart => exact ⟨0, rfl, Nat.zero_le _, Below.refl _ _⟩
  case round =>
    obtain ⟨k, rfl, hk, hbel⟩ := hrel
    have HB := Lib.hid hbel
    clear hbel
    by_cases hlt : k < l.length
    · rcases H1.out with h0 | ⟨b, off, rfl, hb, hp⟩
      · subst h0; exact absurd hlt (by simp)
      rcases H2.out with h0 | ⟨b', off', rfl, hb', hp'⟩
      · subst h0; exact absurd hlt (by simp)
      have c0 := (hp.below HB.out hb) k hlt
      have d0 := (hp'.below HB.out hb') k hlt
      obtain ⟨p, hpp⟩ : ∃ p, l[k] = p := ⟨_, rfl⟩
      rw [hpp] at c0 d0
      have HLT := Lib.hid hlt
      have hk1 : (k : Int) < (l.length : Int) := by omega
      have hk2 : (k : Int) + 1 ≤ 2001 := by omega
      have hk0 : (0 : Int) ≤ (k : Int) := by omega
      clear hpp hp hp'
      go_wp2_with fail
      go_quiet (fail)
      go_wp2_with fail
      exact ⟨⟨k + 1, by go_num, HLT.out, HB.out.trans ((below_drewN' _ _).mono HB.out.size)⟩, by simp [intOf]; have := HLT.out; omega⟩
    · obtain rfl : k = l.length := by omega
      go_wp2_with fail
      go_ret
      exact ⟨rfl, HB.out⟩

end Go.Proofs.YtnebjdjebnphnaaDoor
