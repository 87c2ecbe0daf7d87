/- Valid and speaks of both packages. -/
import Derived.Test.YtnebjdjebnphnaaDoorKa
import Derived.Test.YtnebjdjebnphnaaDoorShelf
namespace Go.Proofs.YtnebjdjebnphnaaDoor
set_option maxRecDepth 8000
open Go.RowKit Go.BigFrame

theorem getD_at (l : List Int) (j : Nat) (h : j < l.length) : l.getD j 0 = l[j] := by simp [List.getD, List.getElem?_eq_getElem h]
theorem contains_any (ao : Option Addr) (cap : Nat) (l : List Int) (x : Int) (w : World) (h : IntRow w ao l) (hl : l.length ≤ 2000) :
    Calls Tryd.prog 40 #[.slice ao l.length cap, .int .i64 x] w fun e w' => e = .returned (.bool (hasI l x)) ∧ w = w' := by
  rcases h with rfl | ⟨b, off, rfl, hb, hp⟩
  · refine (Tryd.slices_Contains_int_empty ao cap x w).mono ?_
    rintro e w' ⟨rfl, rfl⟩
    exact ⟨rfl, rfl⟩
  · refine (Tryd.slices_Contains_int b off l.length cap l x w (Nat.le_refl _) (by omega) fun j hj => by rw [getD_at l j hj]; exact hp j hj).mono ?_
    rintro e w' ⟨rfl, rfl⟩
    rw [List.take_length]
    exact ⟨rfl, rfl⟩

/-- Is the k-th a code set that stands nowhere before? -/
def okAtI (n : Int) (l : List Int) (k : Nat) : Bool := match l[k]? with
  | none => true
  | some x => isSetB x && !decide (x = n) && !hasI (l.take k) x
def okTo (n : Int) (l : List Int) : Nat → Bool
  | 0 => true
  | k + 1 => okTo n l k && okAtI n l k
def validC (n : Int) (l : List Int) : Bool := isSetB n && decide (l.length ≤ 5) && okTo n l l.length
theorem okTo_false {n : Int} {l : List Int} {k : Nat} (h : okTo n l k = false) : ∀ m, k ≤ m → okTo n l m = false
  | 0, hk => by obtain rfl : k = 0 := by omega
                exact h
  | m + 1, hk => by
    by_cases e : k = m + 1
    · subst e; exact h
    · rw [okTo, okTo_false h m (by omega)]; rfl
theorem okAtI_at {n : Int} {l : List Int} {k : Nat} {x : Int} (h : l[k]? = some x) : okAtI n l k = (isSetB x && !decide (x = n) && !hasI (l.take k) x) := by
  unfold okAtI
  rw [h]
theorem validC_bad {n : Int} {l : List Int} {k : Nat} {x : Int} (hk : k < l.length) (h : l[k]? = some x) (hb : (isSetB x && !decide (x = n) && !hasI (l.take k) x) = false) : false = validC n l := by
  have h1 : okTo n l (k + 1) = false := by rw [okTo, okAtI_at h, hb, Bool.and_false]
  unfold validC
  rw [okTo_false h1 _ hk, Bool.and_false]
theorem okTo_next {n : Int} {l : List Int} {k : Nat} {x : Int} (ho : okTo n l k = true) (h : l[k]? = some x) (h1 : isSetB x = true) (h2 : ¬ x = n) (h3 : hasI (l.take k) x = false) : okTo n l (k + 1) = true := by
  rw [okTo, ho, okAtI_at h, h1, h3, decide_eq_false h2]
  rfl

theorem BB_trans {w wr wx : World} (h : Below w.heap.size w wr) (hb : Below wr.heap.size wr wx) : Below w.heap.size w wx := h.trans (hb.mono h.size)
/-- The boxed codes. -/
structure CoI (w : World) (n : Int) (ao : Option Addr) (k cap : Nat) (B : Nat) (wr : World) : Prop where
  nat : wr.cell? ⟨B, 0, none⟩ = some (.int .i64 n)
  oth : wr.cell? ⟨B, 1, none⟩ = some (.slice ao k cap)
  new : w.heap.size ≤ B
  lt : B < wr.heap.size
  below : Below w.heap.size w wr
theorem CoI.later {w wr wx : World} {n : Int} {ao : Option Addr} {k cap B : Nat} (h : CoI w n ao k cap B wr) (hb : Below wr.heap.size wr wx) : CoI w n ao k cap B wx :=
  ⟨(hb.cell h.lt).trans h.nat, (hb.cell h.lt).trans h.oth, h.new, Nat.lt_of_lt_of_le h.lt hb.size, h.below.trans (hb.mono h.below.size)⟩

theorem CoI.start {w : World} {n : Int} {ao : Option Addr} {k cap : Nat} {wr : World} (h : wr = w.alloc (.cells #[.int .i64 n, .slice ao k cap] 36)) : CoI w n ao k cap w.heap.size wr := by
  subst h
  have e := World.alloc_heap_new w (.cells #[.int .i64 n, .slice ao k cap] 36)
  exact ⟨cells_at e 0, cells_at e 1, Nat.le_refl _, by simp, (Below.refl _ _).alloc (Nat.le_refl _) _⟩

set_option maxRecDepth 100000 in
set_option maxHeartbeats 4000000 in
theorem valid_any (n : Int) (ao : Option Addr) (cap : Nat) (l : List Int) (w : World) (h : IntRow w ao l) (hc : l.length ≤ cap) :
    Calls Tryd.prog 21 #[.agg #[.int .i64 n, .slice ao l.length cap]] w fun e w' => e = .returned (.bool (validC n l)) ∧ Below w.heap.size w w' := by
  have HR := Lib.hid h
  clear h
  have IS := Lib.hid fun x wx => isSet_any x wx
  by_cases hn : isSetB n = true
  rotate_left
  · have HF : Hid (false = validC n l) := Lib.hid (by unfold validC; rw [Bool.not_eq_true] at hn; rw [hn]; rfl)
    rw [Bool.not_eq_true] at hn
    go_enter Tryd.func21, Tryd.ntmps21
    go_wp2_with (go_at_call 34; refine (IS.out _ _).mono ?_; rintro e w' ⟨rfl, rfl⟩; rw [hn])
    go_ret
    exact ⟨ret_bool HF.out, (Below.refl _ _).alloc (Nat.le_refl _) _⟩
  by_cases hl : l.length ≤ 5
  rotate_left
  · have HF : Hid (false = validC n l) := Lib.hid (by unfold validC; rw [decide_eq_false hl, Bool.and_false]; rfl)
    have e1 : (5 : Int) < (l.length : Int) := by omega
    have e2 : decide ((5 : Int) < (l.length : Int)) = true := decide_eq_true e1
    clear hc
    go_enter Tryd.func21, Tryd.ntmps21
    go_wp2_with (go_at_call 34; refine (IS.out _ _).mono ?_; rintro e w' ⟨rfl, rfl⟩; rw [hn])
    go_ret
    exact ⟨ret_bool HF.out, (Below.refl _ _).alloc (Nat.le_refl _) _⟩
  have HV : Hid (∀ b, okTo n l l.length = b → b = validC n l) := Lib.hid fun b hb => by unfold validC; rw [hn, decide_eq_true hl, hb]; rfl
  have e1 : ¬ (5 : Int) < (l.length : Int) := by omega
  have e2 : decide ((5 : Int) < (l.length : Int)) = false := decide_eq_false e1
  have HL5 := Lib.hid hl
  have HC := Lib.hid hc
  clear hl hc
  go_enter Tryd.func21, Tryd.ntmps21
  go_wp2_with (go_at_call 34; refine (IS.out _ _).mono ?_; rintro e w' ⟨rfl, rfl⟩; rw [hn])
  go_loopw [2, 18] (fun r i wr => r = .bool false ∧ CoI w n ao l.length cap w.heap.size wr ∧ ∃ k : Nat, i = .int .i64 k ∧ k ≤ l.length ∧ okTo n l k = true) (fun _ i _ => l.length - (intOf i).toNat)
  case atStart => exact ⟨rfl, CoI.start rfl, 0, rfl, Nat.zero_le _, rfl⟩
  case round =>
    obtain ⟨rfl, hco, k, rfl, hk, hok⟩ := hrel
    have c0 := hco.nat
    have c1 := hco.oth
    have HCO := Lib.hid hco
    have HOK := Lib.hid hok
    clear hco hok
    by_cases hlt : k < l.length
    · rcases HR.out with h0 | ⟨b, off, rfl, hb, hp⟩
      · subst h0; exact absurd hlt (by simp)
      have HP := Lib.hid (hp.below HCO.out.below hb)
      have HB := Lib.hid (Nat.lt_of_lt_of_le hb HCO.out.below.size)
      have HLT := Lib.hid hlt
      have hk1 : (k : Int) < (l.length : Int) := by omega
      have hk2 : (k : Int) + 1 ≤ 10 := by have := HL5.out; omega
      have hk0 : (0 : Int) ≤ (k : Int) := by omega
      have hk3 : (k : Int) ≤ (cap : Int) := by have := HC.out; omega
      obtain ⟨x, hx⟩ : ∃ x, l[k]? = some x := ⟨_, List.getElem?_eq_getElem hlt⟩
      have d0 : wr.cell? ⟨b, off + k, none⟩ = some (.int .i64 x) := by rw [List.getElem?_eq_getElem hlt] at hx; cases hx; exact HP.out k hlt
      have HX := Lib.hid hx
      have CT : Hid (∀ c, Calls Tryd.prog 40 #[.slice (some ⟨b, off, none⟩) k c, .int .i64 x] wr fun e w' => e = .returned (.bool (hasI (l.take k) x)) ∧ wr = w') := Lib.hid fun c => by
        have hlen : (l.take k).length = k := by rw [List.length_take]; omega
        have := contains_any (some ⟨b, off, none⟩) c (l.take k) x wr ((IntRow.take (.inr ⟨b, off, rfl, HB.out, HP.out⟩) k)) (by rw [hlen]; have := HL5.out; omega)
        rwa [hlen] at this
      have HE := Lib.hid (validC_bad (n := n) HLT.out hx)
      have HNX := Lib.hid (okTo_next (n := n) HOK.out hx)
      clear hx hp
      cases hs : isSetB x with
      | false =>
        have HF : Hid (false = validC n l) := Lib.hid (HE.out (by rw [hs]; rfl))
        go_wp2_with (go_at_call 34; refine (IS.out _ _).mono ?_; rintro e w' ⟨rfl, rfl⟩; rw [hs])
        go_ret
        exact ⟨ret_bool HF.out, HCO.out.below⟩
      | true =>
        by_cases hxn : x = n
        · have HF : Hid (false = validC n l) := Lib.hid (HE.out (by rw [decide_eq_true hxn, Bool.not_true, Bool.and_false, Bool.false_and]))
          subst hxn
          go_wp2_with (go_at_call 34; refine (IS.out _ _).mono ?_; rintro e w' ⟨rfl, rfl⟩; rw [hs])
          go_ret
          exact ⟨ret_bool HF.out, HCO.out.below⟩
        · cases hh : hasI (l.take k) x with
          | true =>
            have HF : Hid (false = validC n l) := Lib.hid (HE.out (by rw [hh, Bool.not_true, Bool.and_false]))
            go_wp2_with (first
              | (go_at_call 34; refine (IS.out _ _).mono ?_; rintro e w' ⟨rfl, rfl⟩; rw [hs])
              | (go_at_call 40; refine (CT.out _).mono ?_; rintro e w' ⟨rfl, rfl⟩; rw [hh]))
            go_ret
            exact ⟨ret_bool HF.out, HCO.out.below⟩
          | false =>
            have HF := Lib.hid (HNX.out hs hxn hh)
            go_wp2_with (first
              | (go_at_call 34; refine (IS.out _ _).mono ?_; rintro e w' ⟨rfl, rfl⟩; rw [hs])
              | (go_at_call 40; refine (CT.out _).mono ?_; rintro e w' ⟨rfl, rfl⟩; rw [hh]))
            go_roundw
            case rel => exact ⟨by trivial, HCO.out, k + 1, by go_num, HLT.out, HF.out⟩
            case measure => simp [intOf]; have := HLT.out; omega
    · obtain rfl : k = l.length := by omega
      have HF := Lib.hid (HV.out _ HOK.out)
      go_wp2_with fail
      go_ret
      exact ⟨ret_bool HF.out, HCO.out.below⟩

set_option maxRecDepth 100000 in
set_option maxHeartbeats 4000000 in
theorem rvalid_any (n : Int) (ao : Option Addr) (cap : Nat) (l : List Int) (w : World) (h : IntRow w ao l) (hc : l.length ≤ cap) :
    Calls Tryd.prog 22 #[.agg #[.int .i64 n, .slice ao l.length cap]] w fun e w' => e = .returned (.bool (validC n l)) ∧ Below w.heap.size w w' := by
  have HR := Lib.hid h
  clear h
  have IS := Lib.hid fun x wx => ris_any x wx
  by_cases hn : isSetB n = true
  rotate_left
  · have HF : Hid (false = validC n l) := Lib.hid (by unfold validC; rw [Bool.not_eq_true] at hn; rw [hn]; rfl)
    rw [Bool.not_eq_true] at hn
    go_enter Tryd.func22, Tryd.ntmps22
    go_wp2_with (go_at_call 41; refine (IS.out _ _).mono ?_; rintro e w' ⟨rfl, rfl⟩; rw [hn])
    go_ret
    exact ⟨ret_bool HF.out, (Below.refl _ _).alloc (Nat.le_refl _) _⟩
  by_cases hl : l.length ≤ 5
  rotate_left
  · have HF : Hid (false = validC n l) := Lib.hid (by unfold validC; rw [decide_eq_false hl, Bool.and_false]; rfl)
    have e1 : (5 : Int) < (l.length : Int) := by omega
    have e2 : decide ((5 : Int) < (l.length : Int)) = true := decide_eq_true e1
    clear hc
    go_enter Tryd.func22, Tryd.ntmps22
    go_wp2_with (go_at_call 41; refine (IS.out _ _).mono ?_; rintro e w' ⟨rfl, rfl⟩; rw [hn])
    go_ret
    exact ⟨ret_bool HF.out, (Below.refl _ _).alloc (Nat.le_refl _) _⟩
  have HV : Hid (∀ b, okTo n l l.length = b → b = validC n l) := Lib.hid fun b hb => by unfold validC; rw [hn, decide_eq_true hl, hb]; rfl
  have e1 : ¬ (5 : Int) < (l.length : Int) := by omega
  have e2 : decide ((5 : Int) < (l.length : Int)) = false := decide_eq_false e1
  have HL5 := Lib.hid hl
  have HC := Lib.hid hc
  clear hl hc
  go_enter Tryd.func22, Tryd.ntmps22
  go_wp2_with (go_at_call 41; refine (IS.out _ _).mono ?_; rintro e w' ⟨rfl, rfl⟩; rw [hn])
  go_loopw [2, 18] (fun r i wr => r = .bool false ∧ CoI w n ao l.length cap w.heap.size wr ∧ ∃ k : Nat, i = .int .i64 k ∧ k ≤ l.length ∧ okTo n l k = true) (fun _ i _ => l.length - (intOf i).toNat)
  case atStart => exact ⟨rfl, CoI.start rfl, 0, rfl, Nat.zero_le _, rfl⟩
  case round =>
    obtain ⟨rfl, hco, k, rfl, hk, hok⟩ := hrel
    have c0 := hco.nat
    have c1 := hco.oth
    have HCO := Lib.hid hco
    have HOK := Lib.hid hok
    clear hco hok
    by_cases hlt : k < l.length
    · rcases HR.out with h0 | ⟨b, off, rfl, hb, hp⟩
      · subst h0; exact absurd hlt (by simp)
      have HP := Lib.hid (hp.below HCO.out.below hb)
      have HB := Lib.hid (Nat.lt_of_lt_of_le hb HCO.out.below.size)
      have HLT := Lib.hid hlt
      have hk1 : (k : Int) < (l.length : Int) := by omega
      have hk2 : (k : Int) + 1 ≤ 10 := by have := HL5.out; omega
      have hk0 : (0 : Int) ≤ (k : Int) := by omega
      have hk3 : (k : Int) ≤ (cap : Int) := by have := HC.out; omega
      obtain ⟨x, hx⟩ : ∃ x, l[k]? = some x := ⟨_, List.getElem?_eq_getElem hlt⟩
      have d0 : wr.cell? ⟨b, off + k, none⟩ = some (.int .i64 x) := by rw [List.getElem?_eq_getElem hlt] at hx; cases hx; exact HP.out k hlt
      have HX := Lib.hid hx
      have CT : Hid (∀ c, Calls Tryd.prog 42 #[.slice (some ⟨b, off, none⟩) k c, .int .i64 x] wr fun e w' => e = .returned (.bool (hasI (l.take k) x)) ∧ wr = w') := Lib.hid fun c => by
        have hlen : (l.take k).length = k := by rw [List.length_take]; omega
        have := rhas_any (some ⟨b, off, none⟩) c (l.take k) x wr ((IntRow.take (.inr ⟨b, off, rfl, HB.out, HP.out⟩) k)) (by rw [hlen]; have := HL5.out; omega)
        rwa [hlen] at this
      have HE := Lib.hid (validC_bad (n := n) HLT.out hx)
      have HNX := Lib.hid (okTo_next (n := n) HOK.out hx)
      clear hx hp
      cases hs : isSetB x with
      | false =>
        have HF : Hid (false = validC n l) := Lib.hid (HE.out (by rw [hs]; rfl))
        go_wp2_with (go_at_call 41; refine (IS.out _ _).mono ?_; rintro e w' ⟨rfl, rfl⟩; rw [hs])
        go_ret
        exact ⟨ret_bool HF.out, HCO.out.below⟩
      | true =>
        by_cases hxn : x = n
        · have HF : Hid (false = validC n l) := Lib.hid (HE.out (by rw [decide_eq_true hxn, Bool.not_true, Bool.and_false, Bool.false_and]))
          subst hxn
          go_wp2_with (go_at_call 41; refine (IS.out _ _).mono ?_; rintro e w' ⟨rfl, rfl⟩; rw [hs])
          go_ret
          exact ⟨ret_bool HF.out, HCO.out.below⟩
        · cases hh : hasI (l.take k) x with
          | true =>
            have HF : Hid (false = validC n l) := Lib.hid (HE.out (by rw [hh, Bool.not_true, Bool.and_false]))
            go_wp2_with (first
              | (go_at_call 41; refine (IS.out _ _).mono ?_; rintro e w' ⟨rfl, rfl⟩; rw [hs])
              | (go_at_call 42; refine (CT.out _).mono ?_; rintro e w' ⟨rfl, rfl⟩; rw [hh]))
            go_ret
            exact ⟨ret_bool HF.out, HCO.out.below⟩
          | false =>
            have HF := Lib.hid (HNX.out hs hxn hh)
            go_wp2_with (first
              | (go_at_call 41; refine (IS.out _ _).mono ?_; rintro e w' ⟨rfl, rfl⟩; rw [hs])
              | (go_at_call 42; refine (CT.out _).mono ?_; rintro e w' ⟨rfl, rfl⟩; rw [hh]))
            go_roundw
            case rel => exact ⟨by trivial, HCO.out, k + 1, by go_num, HLT.out, HF.out⟩
            case measure => simp [intOf]; have := HLT.out; omega
    · obtain rfl : k = l.length := by omega
      have HF := Lib.hid (HV.out _ HOK.out)
      go_wp2_with fail
      go_ret
      exact ⟨ret_bool HF.out, HCO.out.below⟩

/-- Does a side speak it? -/
def speaksC (n : Int) (l : List Int) (x : Int) : Bool := decide (n = x) || hasI l x

set_option maxRecDepth 100000 in
set_option maxHeartbeats 4000000 in
theorem speaks_any (n x : Int) (ao : Option Addr) (cap : Nat) (l : List Int) (w : World) (h : IntRow w ao l) (hl : l.length ≤ 2000) :
    Calls Tryd.prog 36 #[.agg #[.int .i64 n, .slice ao l.length cap], .int .i64 x] w fun e w' => e = .returned (.bool (speaksC n l x)) ∧ Below w.heap.size w w' := by
  have HR := Lib.hid fun wx (hx : Below w.heap.size w wx) => contains_any ao cap l x wx (h.below hx) hl
  have HB : ∀ o, Hid (Below w.heap.size w (w.alloc o)) := fun o => Lib.hid ((Below.refl _ _).alloc (Nat.le_refl _) _)
  clear h hl
  by_cases hn : n = x
  · have HF : Hid (true = speaksC n l x) := Lib.hid (by unfold speaksC; rw [decide_eq_true hn]; rfl)
    subst hn
    go_enter Tryd.func36, Tryd.ntmps36
    go_wp2_with fail
    go_ret
    exact ⟨ret_bool HF.out, (Below.refl _ _).alloc (Nat.le_refl _) _⟩
  · have HF : Hid ((n == x || hasI l x) = speaksC n l x) := Lib.hid rfl
    go_enter Tryd.func36, Tryd.ntmps36
    go_wp2_with (go_at_call 40; refine (HR.out _ (HB _).out).mono ?_; rintro e w' ⟨rfl, rfl⟩)
    go_ret
    exact ⟨ret_bool HF.out, (Below.refl _ _).alloc (Nat.le_refl _) _⟩

set_option maxRecDepth 100000 in
set_option maxHeartbeats 4000000 in
theorem rspeaks_any (n x : Int) (ao : Option Addr) (cap : Nat) (l : List Int) (w : World) (h : IntRow w ao l) (hl : l.length ≤ 2000) :
    Calls Tryd.prog 37 #[.agg #[.int .i64 n, .slice ao l.length cap], .int .i64 x] w fun e w' => e = .returned (.bool (speaksC n l x)) ∧ Below w.heap.size w w' := by
  have HR := Lib.hid fun wx (hx : Below w.heap.size w wx) => rhas_any ao cap l x wx (h.below hx) hl
  have HB : ∀ o, Hid (Below w.heap.size w (w.alloc o)) := fun o => Lib.hid ((Below.refl _ _).alloc (Nat.le_refl _) _)
  clear h hl
  by_cases hn : n = x
  · have HF : Hid (true = speaksC n l x) := Lib.hid (by unfold speaksC; rw [decide_eq_true hn]; rfl)
    subst hn
    go_enter Tryd.func37, Tryd.ntmps37
    go_wp2_with fail
    go_ret
    exact ⟨ret_bool HF.out, (Below.refl _ _).alloc (Nat.le_refl _) _⟩
  · have HF : Hid ((n == x || hasI l x) = speaksC n l x) := Lib.hid rfl
    go_enter Tryd.func37, Tryd.ntmps37
    go_wp2_with (go_at_call 42; refine (HR.out _ (HB _).out).mono ?_; rintro e w' ⟨rfl, rfl⟩)
    go_ret
    exact ⟨ret_bool HF.out, (Below.refl _ _).alloc (Nat.le_refl _) _⟩

end Go.Proofs.YtnebjdjebnphnaaDoor
