/- Common of both packages. -/
import Derived.Test.YtnebjdjebnphnaaDoorFa
import Derived.Lib.SlKeysI
namespace Go.Proofs.YtnebjdjebnphnaaDoor
set_option maxRecDepth 8000
open Go.RowKit Go.BigFrame Go.Sort

/-- Those below a bound of which something is said. -/
def comG (p : Int → Bool) : Nat → List Int
  | 0 => []
  | k + 1 => comG p k ++ (if (decide (1 ≤ k) && p k) = true then [(k : Int)] else [])
def comP (n : Int) (l : List Int) (m : Int) (r : List Int) (x : Int) : Bool := speaksC n l x && speaksC m r x
def comL (n : Int) (l : List Int) (m : Int) (r : List Int) : List Int := if (validC n l && validC m r) = true then comG (comP n l m r) 6 else []
def comE (n : Int) (l : List Int) (m : Int) (r : List Int) : Int := if (validC n l && validC m r) = true then 0 else 1
theorem comG_yes {p : Int → Bool} {k : Nat} (h1 : 1 ≤ k) (h : p k = true) : comG p (k + 1) = comG p k ++ [(k : Int)] := by
  rw [comG, h, decide_eq_true h1]
  rfl
theorem comG_no {p : Int → Bool} {k : Nat} (h : p k = false) : comG p (k + 1) = comG p k := by
  rw [comG, h, Bool.and_false]
  simp
theorem comG_len (p : Int → Bool) : ∀ k, (comG p k).length ≤ k
  | 0 => Nat.le_refl _
  | k + 1 => by
    have := comG_len p k
    rw [comG, List.length_append]
    split <;> simp <;> omega
theorem comG_lt (p : Int → Bool) : ∀ k, ∀ x ∈ comG p k, 1 ≤ x ∧ x < k ∧ p x = true
  | 0, x, h => by simp [comG] at h
  | k + 1, x, h => by
    rw [comG, List.mem_append] at h
    rcases h with h | h
    · have := comG_lt p k x h
      exact ⟨this.1, by omega, this.2.2⟩
    · split at h
      · rename_i hc
        simp only [Bool.and_eq_true, decide_eq_true_eq] at hc
        obtain rfl := List.mem_singleton.1 h
        exact ⟨by omega, by omega, hc.2⟩
      · simp at h
theorem comG_sorted (p : Int → Bool) : ∀ k, (comG p k).Pairwise fun x y => decide (x ≤ y) = true
  | 0 => .nil
  | k + 1 => by
    rw [comG]
    refine List.pairwise_append.2 ⟨comG_sorted p k, ?_, fun x hx y hy => ?_⟩
    · split <;> simp
    · split at hy
      · obtain rfl := List.mem_singleton.1 hy
        have := comG_lt p k x hx
        exact decide_eq_true (by omega)
      · simp at hy
theorem comG_mem {p : Int → Bool} {x : Int} (h1 : 1 ≤ x) (h5 : x ≤ 5) (hp : p x = true) : x ∈ comG p 6 := by
  have hh : x = 1 ∨ x = 2 ∨ x = 3 ∨ x = 4 ∨ x = 5 := by omega
  rcases hh with rfl | rfl | rfl | rfl | rfl <;> simp [comG, hp]
theorem comG_sort (p : Int → Bool) (k : Nat) : (comG p k).mergeSort (fun x y => decide (x ≤ y)) = comG p k := List.mergeSort_of_pairwise (comG_sorted p k)

/-- sort.Ints of a sorted row. -/
theorem ints_sort (base : Nat) (wr : World) (v : Value) (ss : List Int) (h : wr.ownsRow base 3 1 v ss.length (ss.map (Value.int .i64))) (hl : ss.length ≤ 1000) (hs : ss.mergeSort (fun x y => decide (x ≤ y)) = ss) :
    Calls Tryd.prog 38 #[v] wr fun e w' => e = .returned (.tuple #[]) ∧ w'.ownsRow base 3 1 v ss.length (ss.map (Value.int .i64)) ∧ wr.grownBy w' v.ownBlock := by
  rcases h.2 with ⟨rfl, hz⟩ | ⟨gb, cap, cur, rfl, hbase, hgb, r1, r2, r3, r4⟩
  · have hss : ss = [] := List.eq_nil_of_length_eq_zero hz
    subst hss
    refine (Tryd.sort_Ints_none none 0 wr).mono ?_
    rintro e w' ⟨rfl, rfl⟩
    exact ⟨rfl, h, World.grownBy.refl _ _⟩
  · have hH : Holds encZ wr gb 0 ss.toArray := holds_of_block_i hgb (by simpa using r4)
    refine (Tryd.sort_Ints gb 0 cap ss wr hH (blk_lt hgb) (by omega)).mono ?_
    rintro e w' ⟨rfl, n, os, rfl⟩
    rw [hs]
    exact ⟨rfl, ownsRow_sorted_i (w := wr) (base := base) (n := n) (os := os) (ss := ss) (ts := ss) rfl hbase hgb r1 r2 r3, grownBy_sorted_i _⟩

/-- What Common returns. -/
def CmP (n : Int) (l : List Int) (m : Int) (r : List Int) (w : World) (e : Ending) (w' : World) : Prop :=
  ∃ ao cap, e = .returned (.tuple #[.slice ao (comL n l m r).length cap, .int .i64 (comE n l m r)]) ∧ IntRow w' ao (comL n l m r) ∧ Below w.heap.size w w'
theorem CmP.bad {n m : Int} {l r : List Int} {w w' : World} {e : Ending} (h : (validC n l && validC m r) = false) (he : e = .returned (.tuple #[.slice none 0 0, .int .i64 1])) (hb : Below w.heap.size w w') : CmP n l m r w e w' := by
  have h' : ¬ (validC n l && validC m r) = true := by rw [h]; decide
  unfold CmP comL comE
  rw [if_neg h', if_neg h']
  exact ⟨none, 0, he, .inl rfl, hb⟩
theorem CmP.good {n m : Int} {l r : List Int} {w w' : World} {e : Ending} {ao : Option Addr} {cap k : Nat} (h : (validC n l && validC m r) = true) (hk : k = (comG (comP n l m r) 6).length) (he : e = .returned (.tuple #[.slice ao k cap, .int .i64 0])) (hr : IntRow w' ao (comG (comP n l m r) 6)) (hb : Below w.heap.size w w') : CmP n l m r w e w' := by
  subst hk
  unfold CmP comL comE
  rw [if_pos h, if_pos h]
  exact ⟨ao, cap, he, hr, hb⟩

/-- The boxes, and the row so far. -/
structure CmI (w : World) (n : Int) (a1 : Option Addr) (k1 c1 : Nat) (m : Int) (a2 : Option Addr) (k2 c2 : Nat) (sv : Value) (L : List Int) (wr : World) : Prop where
  bx : BxI w n a1 k1 c1 m a2 k2 c2 wr
  own : wr.ownsRow (w.heap.size + 2) 3 1 sv L.length (L.map (Value.int .i64))
section
variable {w wr wx : World} {n : Int} {a1 : Option Addr} {k1 c1 : Nat} {m : Int} {a2 : Option Addr} {k2 c2 : Nat} {sv : Value} {L : List Int}
theorem CmI.later (h : CmI w n a1 k1 c1 m a2 k2 c2 sv L wr) (hb : Below wr.heap.size wr wx) : CmI w n a1 k1 c1 m a2 k2 c2 sv L wx := ⟨h.bx.later hb, ownsRow_below h.own hb⟩
theorem BxI.grown (h : BxI w n a1 k1 c1 m a2 k2 c2 wr) (ho : wr.ownsRow (w.heap.size + 2) 3 1 sv L.length (L.map (Value.int .i64))) (hg : wr.grownBy wx sv.ownBlock) : BxI w n a1 k1 c1 m a2 k2 c2 wx := by
  have hne : ∀ k, k < w.heap.size + 2 → some k ≠ sv.ownBlock := fun k hk e => by have := (ho.lt k e.symm).1; omega
  exact ⟨hg.cell h.p0 (hne _ (by simp only; omega)), hg.cell h.p1 (hne _ (by simp only; omega)), hg.cell h.q0 (hne _ (by simp only; omega)), hg.cell h.q1 (hne _ (by simp only; omega)), Nat.lt_of_lt_of_le h.lt hg.size, ⟨hg.os.trans h.below.os, hg.tape.trans h.below.tape, hg.output.trans h.below.output, Nat.le_trans h.below.size hg.size, fun k hk => (hg.block k (Nat.lt_of_lt_of_le hk h.below.size) fun e => hne k (by omega) e).trans (h.below.block k hk)⟩⟩
theorem grown_alloc {W W' : World} {o : Obj} {g : Option Nat} (h : (W.alloc o).grownBy W' g) : W.grownBy W' g :=
  ⟨h.os, h.tape, h.output, Nat.le_trans (by simp) h.size, fun k hk hn => (h.block k (by simp; omega) hn).trans (Below.heap_alloc _ _ _ hk)⟩
theorem CmI.grown {v' : Value} {o : Obj} {x : Int} (h : CmI w n a1 k1 c1 m a2 k2 c2 sv L wr) (hg : (wr.alloc o).grownBy wx sv.ownBlock) (ho : wx.ownsRow (w.heap.size + 2) 3 1 v' (L.length + 1) (L.map (Value.int .i64) ++ [.int .i64 x])) : CmI w n a1 k1 c1 m a2 k2 c2 v' (L ++ [x]) wx :=
  ⟨h.bx.grown h.own (grown_alloc hg), by rw [List.length_append, List.length_singleton, List.map_append]; exact ho⟩
end

set_option maxRecDepth 100000 in
set_option maxHeartbeats 8000000 in
theorem common_any (n m : Int) (a1 a2 : Option Addr) (c1 c2 : Nat) (l r : List Int) (w : World) (h1 : IntRow w a1 l) (h2 : IntRow w a2 r) (hc1 : l.length ≤ c1) (hc2 : r.length ≤ c2) (hl : l.length ≤ 2000) (hr : r.length ≤ 2000) :
    Calls Tryd.prog 18 #[.agg #[.int .i64 n, .slice a1 l.length c1], .agg #[.int .i64 m, .slice a2 r.length c2]] w (CmP n l m r w) := by
  have V1 := Lib.hid fun wx (hx : Below w.heap.size w wx) => valid_any n a1 c1 l wx (h1.below hx) hc1
  have V2 := Lib.hid fun wx (hx : Below w.heap.size w wx) => valid_any m a2 c2 r wx (h2.below hx) hc2
  have S1 := Lib.hid fun x wx (hx : Below w.heap.size w wx) => speaks_any n x a1 c1 l wx (h1.below hx) hl
  have S2 := Lib.hid fun x wx (hx : Below w.heap.size w wx) => speaks_any m x a2 c2 r wx (h2.below hx) hr
  have HX := Lib.hid (BxI.start w n a1 l.length c1 m a2 r.length c2)
  have p0 := True.intro
  have p1 := True.intro
  have q0 := True.intro
  have q1 := True.intro
  obtain ⟨i0, hi0, hz0, hz1, hz2⟩ := info_parts info3i
  clear h1 h2 hc1 hc2 hl hr
  cases hv1 : validC n l with
  | false =>
    have HV : Hid ((validC n l && validC m r) = false) := Lib.hid (by rw [hv1]; rfl)
    rw [hv1] at V1
    clear hv1
    go_enter Tryd.func18, Tryd.ntmps18
    go_wp2_with (first
        | (go_at_call 21; refine (V1.out _ HX.out.below).mono ?_; rintro e w1 ⟨rfl, hb⟩; replace HX := Lib.hid (HX.out.later hb); clear hb p0 p1 q0 q1 V1; have p0 := HX.out.p0; have p1 := HX.out.p1; have q0 := HX.out.q0; have q1 := HX.out.q1)
        | (go_at_call 21; refine (V2.out _ HX.out.below).mono ?_; rintro e w1 ⟨rfl, hb⟩; replace HX := Lib.hid (HX.out.later hb); clear hb p0 p1 q0 q1; have p0 := HX.out.p0; have p1 := HX.out.p1; have q0 := HX.out.q0; have q1 := HX.out.q1))
    go_ret2
    exact CmP.bad HV.out rfl HX.out.below
  | true =>
    cases hv2 : validC m r with
    | false =>
      have HV : Hid ((validC n l && validC m r) = false) := Lib.hid (by rw [hv2, Bool.and_false])
      rw [hv1] at V1
      rw [hv2] at V2
      clear hv1 hv2
      go_enter Tryd.func18, Tryd.ntmps18
      go_wp2_with (first
        | (go_at_call 21; refine (V1.out _ HX.out.below).mono ?_; rintro e w1 ⟨rfl, hb⟩; replace HX := Lib.hid (HX.out.later hb); clear hb p0 p1 q0 q1 V1; have p0 := HX.out.p0; have p1 := HX.out.p1; have q0 := HX.out.q0; have q1 := HX.out.q1)
        | (go_at_call 21; refine (V2.out _ HX.out.below).mono ?_; rintro e w1 ⟨rfl, hb⟩; replace HX := Lib.hid (HX.out.later hb); clear hb p0 p1 q0 q1; have p0 := HX.out.p0; have p1 := HX.out.p1; have q0 := HX.out.q0; have q1 := HX.out.q1))
      go_ret2
      exact CmP.bad HV.out rfl HX.out.below
    | true =>
      have HV : Hid ((validC n l && validC m r) = true) := Lib.hid (by rw [hv1, hv2]; rfl)
      rw [hv1] at V1
      rw [hv2] at V2
      clear hv1 hv2
      go_enter Tryd.func18, Tryd.ntmps18
      go_wp2_with (first
        | (go_at_call 21; refine (V1.out _ HX.out.below).mono ?_; rintro e w1 ⟨rfl, hb⟩; replace HX := Lib.hid (HX.out.later hb); clear hb p0 p1 q0 q1 V1; have p0 := HX.out.p0; have p1 := HX.out.p1; have q0 := HX.out.q0; have q1 := HX.out.q1)
        | (go_at_call 21; refine (V2.out _ HX.out.below).mono ?_; rintro e w1 ⟨rfl, hb⟩; replace HX := Lib.hid (HX.out.later hb); clear hb p0 p1 q0 q1; have p0 := HX.out.p0; have p1 := HX.out.p1; have q0 := HX.out.q0; have q1 := HX.out.q1))
      go_loopw [6, 7] (fun v i wr => ∃ k : Nat, i = .int .i64 k ∧ 1 ≤ k ∧ k ≤ 6 ∧ CmI w n a1 l.length c1 m a2 r.length c2 v (comG (comP n l m r) k) wr) (fun _ i _ => 6 - (intOf i).toNat)
      case atStart => exact ⟨1, rfl, by omega, by omega, HX.out, by simpa [comG] using World.ownsRow_nil _ _ _ _⟩
      case round =>
        clear p0 p1 q0 q1 HX
        obtain ⟨k, rfl, h1, h6, hc⟩ := hrel
        have p0 := hc.bx.p0
        have p1 := hc.bx.p1
        have q0 := hc.bx.q0
        have q1 := hc.bx.q1
        have HC := Lib.hid hc
        clear hc
        by_cases hlt : k < 6
        · have e1 : decide ((k : Int) ≤ 5) = true := decide_eq_true (by omega)
          have e2 : (k : Int) ≤ 5 := by omega
          have HK := Lib.hid hlt
          have H1 := Lib.hid h1
          have HLN : Hid ((comG (comP n l m r) k).length ≤ 6) := Lib.hid (by have := comG_len (comP n l m r) k; omega)
          have HY := Lib.hid (fun hp => comG_yes (p := comP n l m r) h1 hp)
          have HN := Lib.hid (fun hp => comG_no (p := comP n l m r) (k := k) hp)
          have SX := Lib.hid (S1.out (k : Int))
          have SY := Lib.hid (S2.out (k : Int))
          have HCP : Hid (comP n l m r (k : Int) = (speaksC n l (k : Int) && speaksC m r (k : Int))) := Lib.hid rfl
          obtain ⟨L, hL⟩ : ∃ L, comG (comP n l m r) k = L := ⟨_, rfl⟩
          rw [hL] at HC HLN HY HN
          clear hlt h1 h6 hL
          cases hs1 : speaksC n l (k : Int) with
          | false =>
            have HF := Lib.hid (HN.out (by rw [HCP.out, hs1]; rfl))
            rw [hs1] at SX
            clear hs1
            go_wp2_with (go_at_call 36; refine (SX.out _ HC.out.bx.below).mono ?_; rintro e w1 ⟨rfl, hb⟩; replace HC := Lib.hid (HC.out.later hb); clear hb p0 p1 q0 q1; have p0 := HC.out.bx.p0; have p1 := HC.out.bx.p1; have q0 := HC.out.bx.q0; have q1 := HC.out.bx.q1)
            go_roundw
            case rel => exact ⟨k + 1, by go_num, by omega, HK.out, by rw [HF.out]; exact HC.out⟩
            case measure => simp [intOf]; have := HK.out; omega
          | true =>
            cases hs2 : speaksC m r (k : Int) with
            | false =>
              have HF := Lib.hid (HN.out (by rw [HCP.out, hs1, hs2]; rfl))
              rw [hs1] at SX
              rw [hs2] at SY
              clear hs1 hs2
              go_wp2_with (first
                | (go_at_call 36; refine (SX.out _ HC.out.bx.below).mono ?_; rintro e w1 ⟨rfl, hb⟩; replace HC := Lib.hid (HC.out.later hb); clear hb p0 p1 q0 q1 SX; have p0 := HC.out.bx.p0; have p1 := HC.out.bx.p1; have q0 := HC.out.bx.q0; have q1 := HC.out.bx.q1)
                | (go_at_call 36; refine (SY.out _ HC.out.bx.below).mono ?_; rintro e w1 ⟨rfl, hb⟩; replace HC := Lib.hid (HC.out.later hb); clear hb p0 p1 q0 q1; have p0 := HC.out.bx.p0; have p1 := HC.out.bx.p1; have q0 := HC.out.bx.q0; have q1 := HC.out.bx.q1))
              go_roundw
              case rel => exact ⟨k + 1, by go_num, by omega, HK.out, by rw [HF.out]; exact HC.out⟩
              case measure => simp [intOf]; have := HK.out; omega
            | true =>
              have HF := Lib.hid (HY.out (by rw [HCP.out, hs1, hs2]; rfl))
              rw [hs1] at SX
              rw [hs2] at SY
              clear hs1 hs2
              go_wp2_with (first
                | (go_at_call 36; refine (SX.out _ HC.out.bx.below).mono ?_; rintro e w1 ⟨rfl, hb⟩; replace HC := Lib.hid (HC.out.later hb); clear hb p0 p1 q0 q1 SX; have p0 := HC.out.bx.p0; have p1 := HC.out.bx.p1; have q0 := HC.out.bx.q0; have q1 := HC.out.bx.q1)
                | (go_at_call 36; refine (SY.out _ HC.out.bx.below).mono ?_; rintro e w2 ⟨rfl, hb⟩; replace HC := Lib.hid (HC.out.later hb); clear hb p0 p1 q0 q1; have p0 := HC.out.bx.p0; have p1 := HC.out.bx.p1; have q0 := HC.out.bx.q0; have q1 := HC.out.bx.q1)
                | (at_builtin; refine wpList_append_own_at _ rfl _ _ 27 rfl (w.heap.size + 2) 3 i0 (.int .i64 0) 1 8 under27 hi0 hz0 hz1 hz2 rfl (by decide) _ _ _ rfl (HC.out.own.alloc _) ⟨w2.heap.size, 0, none⟩ 1 1 [.int .i64 (k : Int)] rfl (by simp) (cell_int_new (World.alloc_heap_new _ _)) (by simp [Value.oneCell']) (by have := HLN.out; unfold maxLen; omega) (by have := HLN.out; omega) (by have := HC.out.bx.lt; simp; omega) ?_; intro v' w3 hown' hgrow _ _; obtain ⟨av, cv, rfl⟩ := own_form hown'; have HC3 := Lib.hid (HC.out.grown hgrow hown'); clear hown' hgrow p0 p1 q0 q1))
              go_roundw
              case rel => exact ⟨k + 1, by go_num, by omega, HK.out, by rw [HF.out]; exact HC3.out⟩
              case measure => simp [intOf]; have := HK.out; omega
        · obtain rfl : k = 6 := by omega
          obtain ⟨ao, cap, rfl, _, hrow⟩ := row_of_own HC.out.own
          have HROW := Lib.hid hrow
          clear hrow
          go_wp2_with fail
          go_ret2
          exact CmP.good HV.out rfl rfl HROW.out HC.out.bx.below

set_option maxRecDepth 100000 in
set_option maxHeartbeats 8000000 in
theorem rcommon_any (n m : Int) (a1 a2 : Option Addr) (c1 c2 : Nat) (l r : List Int) (w : World) (h1 : IntRow w a1 l) (h2 : IntRow w a2 r) (hc1 : l.length ≤ c1) (hc2 : r.length ≤ c2) (hl : l.length ≤ 2000) (hr : r.length ≤ 2000) :
    Calls Tryd.prog 19 #[.agg #[.int .i64 n, .slice a1 l.length c1], .agg #[.int .i64 m, .slice a2 r.length c2]] w (CmP n l m r w) := by
  have V1 := Lib.hid fun wx (hx : Below w.heap.size w wx) => rvalid_any n a1 c1 l wx (h1.below hx) hc1
  have V2 := Lib.hid fun wx (hx : Below w.heap.size w wx) => rvalid_any m a2 c2 r wx (h2.below hx) hc2
  have S1 := Lib.hid fun x wx (hx : Below w.heap.size w wx) => rspeaks_any n x a1 c1 l wx (h1.below hx) hl
  have S2 := Lib.hid fun x wx (hx : Below w.heap.size w wx) => rspeaks_any m x a2 c2 r wx (h2.below hx) hr
  have HX := Lib.hid (BxI.start w n a1 l.length c1 m a2 r.length c2)
  have p0 := True.intro
  have p1 := True.intro
  have q0 := True.intro
  have q1 := True.intro
  obtain ⟨i0, hi0, hz0, hz1, hz2⟩ := info_parts info3i
  clear h1 h2 hc1 hc2 hl hr
  cases hv1 : validC n l with
  | false =>
    have HV : Hid ((validC n l && validC m r) = false) := Lib.hid (by rw [hv1]; rfl)
    rw [hv1] at V1
    clear hv1
    go_enter Tryd.func19, Tryd.ntmps19
    go_wp2_with (first
        | (go_at_call 22; refine (V1.out _ HX.out.below).mono ?_; rintro e w1 ⟨rfl, hb⟩; replace HX := Lib.hid (HX.out.later hb); clear hb p0 p1 q0 q1 V1; have p0 := HX.out.p0; have p1 := HX.out.p1; have q0 := HX.out.q0; have q1 := HX.out.q1)
        | (go_at_call 22; refine (V2.out _ HX.out.below).mono ?_; rintro e w1 ⟨rfl, hb⟩; replace HX := Lib.hid (HX.out.later hb); clear hb p0 p1 q0 q1; have p0 := HX.out.p0; have p1 := HX.out.p1; have q0 := HX.out.q0; have q1 := HX.out.q1))
    go_ret2
    exact CmP.bad HV.out rfl HX.out.below
  | true =>
    cases hv2 : validC m r with
    | false =>
      have HV : Hid ((validC n l && validC m r) = false) := Lib.hid (by rw [hv2, Bool.and_false])
      rw [hv1] at V1
      rw [hv2] at V2
      clear hv1 hv2
      go_enter Tryd.func19, Tryd.ntmps19
      go_wp2_with (first
        | (go_at_call 22; refine (V1.out _ HX.out.below).mono ?_; rintro e w1 ⟨rfl, hb⟩; replace HX := Lib.hid (HX.out.later hb); clear hb p0 p1 q0 q1 V1; have p0 := HX.out.p0; have p1 := HX.out.p1; have q0 := HX.out.q0; have q1 := HX.out.q1)
        | (go_at_call 22; refine (V2.out _ HX.out.below).mono ?_; rintro e w1 ⟨rfl, hb⟩; replace HX := Lib.hid (HX.out.later hb); clear hb p0 p1 q0 q1; have p0 := HX.out.p0; have p1 := HX.out.p1; have q0 := HX.out.q0; have q1 := HX.out.q1))
      go_ret2
      exact CmP.bad HV.out rfl HX.out.below
    | true =>
      have HV : Hid ((validC n l && validC m r) = true) := Lib.hid (by rw [hv1, hv2]; rfl)
      rw [hv1] at V1
      rw [hv2] at V2
      clear hv1 hv2
      go_enter Tryd.func19, Tryd.ntmps19
      go_wp2_with (first
        | (go_at_call 22; refine (V1.out _ HX.out.below).mono ?_; rintro e w1 ⟨rfl, hb⟩; replace HX := Lib.hid (HX.out.later hb); clear hb p0 p1 q0 q1 V1; have p0 := HX.out.p0; have p1 := HX.out.p1; have q0 := HX.out.q0; have q1 := HX.out.q1)
        | (go_at_call 22; refine (V2.out _ HX.out.below).mono ?_; rintro e w1 ⟨rfl, hb⟩; replace HX := Lib.hid (HX.out.later hb); clear hb p0 p1 q0 q1; have p0 := HX.out.p0; have p1 := HX.out.p1; have q0 := HX.out.q0; have q1 := HX.out.q1))
      go_loopw [6, 7] (fun v i wr => ∃ k : Nat, i = .int .i64 k ∧ 1 ≤ k ∧ k ≤ 6 ∧ CmI w n a1 l.length c1 m a2 r.length c2 v (comG (comP n l m r) k) wr) (fun _ i _ => 6 - (intOf i).toNat)
      case atStart => exact ⟨1, rfl, by omega, by omega, HX.out, by simpa [comG] using World.ownsRow_nil _ _ _ _⟩
      case round =>
        clear p0 p1 q0 q1 HX
        obtain ⟨k, rfl, h1, h6, hc⟩ := hrel
        have p0 := hc.bx.p0
        have p1 := hc.bx.p1
        have q0 := hc.bx.q0
        have q1 := hc.bx.q1
        have HC := Lib.hid hc
        clear hc
        by_cases hlt : k < 6
        · have e1 : decide ((k : Int) ≤ 5) = true := decide_eq_true (by omega)
          have e2 : (k : Int) ≤ 5 := by omega
          have HK := Lib.hid hlt
          have H1 := Lib.hid h1
          have HLN : Hid ((comG (comP n l m r) k).length ≤ 6) := Lib.hid (by have := comG_len (comP n l m r) k; omega)
          have HY := Lib.hid (fun hp => comG_yes (p := comP n l m r) h1 hp)
          have HN := Lib.hid (fun hp => comG_no (p := comP n l m r) (k := k) hp)
          have SX := Lib.hid (S1.out (k : Int))
          have SY := Lib.hid (S2.out (k : Int))
          have HCP : Hid (comP n l m r (k : Int) = (speaksC n l (k : Int) && speaksC m r (k : Int))) := Lib.hid rfl
          obtain ⟨L, hL⟩ : ∃ L, comG (comP n l m r) k = L := ⟨_, rfl⟩
          rw [hL] at HC HLN HY HN
          clear hlt h1 h6 hL
          cases hs1 : speaksC n l (k : Int) with
          | false =>
            have HF := Lib.hid (HN.out (by rw [HCP.out, hs1]; rfl))
            rw [hs1] at SX
            clear hs1
            go_wp2_with (go_at_call 37; refine (SX.out _ HC.out.bx.below).mono ?_; rintro e w1 ⟨rfl, hb⟩; replace HC := Lib.hid (HC.out.later hb); clear hb p0 p1 q0 q1; have p0 := HC.out.bx.p0; have p1 := HC.out.bx.p1; have q0 := HC.out.bx.q0; have q1 := HC.out.bx.q1)
            go_roundw
            case rel => exact ⟨k + 1, by go_num, by omega, HK.out, by rw [HF.out]; exact HC.out⟩
            case measure => simp [intOf]; have := HK.out; omega
          | true =>
            cases hs2 : speaksC m r (k : Int) with
            | false =>
              have HF := Lib.hid (HN.out (by rw [HCP.out, hs1, hs2]; rfl))
              rw [hs1] at SX
              rw [hs2] at SY
              clear hs1 hs2
              go_wp2_with (first
                | (go_at_call 37; refine (SX.out _ HC.out.bx.below).mono ?_; rintro e w1 ⟨rfl, hb⟩; replace HC := Lib.hid (HC.out.later hb); clear hb p0 p1 q0 q1 SX; have p0 := HC.out.bx.p0; have p1 := HC.out.bx.p1; have q0 := HC.out.bx.q0; have q1 := HC.out.bx.q1)
                | (go_at_call 37; refine (SY.out _ HC.out.bx.below).mono ?_; rintro e w1 ⟨rfl, hb⟩; replace HC := Lib.hid (HC.out.later hb); clear hb p0 p1 q0 q1; have p0 := HC.out.bx.p0; have p1 := HC.out.bx.p1; have q0 := HC.out.bx.q0; have q1 := HC.out.bx.q1))
              go_roundw
              case rel => exact ⟨k + 1, by go_num, by omega, HK.out, by rw [HF.out]; exact HC.out⟩
              case measure => simp [intOf]; have := HK.out; omega
            | true =>
              have HF := Lib.hid (HY.out (by rw [HCP.out, hs1, hs2]; rfl))
              rw [hs1] at SX
              rw [hs2] at SY
              clear hs1 hs2
              go_wp2_with (first
                | (go_at_call 37; refine (SX.out _ HC.out.bx.below).mono ?_; rintro e w1 ⟨rfl, hb⟩; replace HC := Lib.hid (HC.out.later hb); clear hb p0 p1 q0 q1 SX; have p0 := HC.out.bx.p0; have p1 := HC.out.bx.p1; have q0 := HC.out.bx.q0; have q1 := HC.out.bx.q1)
                | (go_at_call 37; refine (SY.out _ HC.out.bx.below).mono ?_; rintro e w2 ⟨rfl, hb⟩; replace HC := Lib.hid (HC.out.later hb); clear hb p0 p1 q0 q1; have p0 := HC.out.bx.p0; have p1 := HC.out.bx.p1; have q0 := HC.out.bx.q0; have q1 := HC.out.bx.q1)
                | (at_builtin; refine wpList_append_own_at _ rfl _ _ 27 rfl (w.heap.size + 2) 3 i0 (.int .i64 0) 1 8 under27 hi0 hz0 hz1 hz2 rfl (by decide) _ _ _ rfl (HC.out.own.alloc _) ⟨w2.heap.size, 0, none⟩ 1 1 [.int .i64 (k : Int)] rfl (by simp) (cell_int_new (World.alloc_heap_new _ _)) (by simp [Value.oneCell']) (by have := HLN.out; unfold maxLen; omega) (by have := HLN.out; omega) (by have := HC.out.bx.lt; simp; omega) ?_; intro v' w3 hown' hgrow _ _; obtain ⟨av, cv, rfl⟩ := own_form hown'; have HC3 := Lib.hid (HC.out.grown hgrow hown'); clear hown' hgrow p0 p1 q0 q1))
              go_roundw
              case rel => exact ⟨k + 1, by go_num, by omega, HK.out, by rw [HF.out]; exact HC3.out⟩
              case measure => simp [intOf]; have := HK.out; omega
        · obtain rfl : k = 6 := by omega
          have SO := Lib.hid (ints_sort _ wr _ _ HC.out.own (by have := comG_len (comP n l m r) 6; omega) (comG_sort _ _))
          go_wp2_with (go_at_call 38; refine SO.out.mono ?_; rintro e w3 ⟨rfl, hown, hgrow⟩; have HO3 := Lib.hid hown; have HB3 := Lib.hid (HC.out.bx.grown HC.out.own hgrow); clear hown hgrow)
          obtain ⟨ao, cap, rfl, _, hrow⟩ := row_of_own HO3.out
          go_ret2
          exact CmP.good HV.out rfl rfl hrow HB3.out.below

end Go.Proofs.YtnebjdjebnphnaaDoor
