/- The contracts of slices.ContainsFunc at numbers, and of Sizes of both packages. -/
import Derived.Test.YtclhnpbjmefpeaaG
namespace Go.Proofs.Ytclhnpbjmefpeaa
open Go.RowKit Go.BigFrame

theorem sizeBad_any (n : Int) (w : World) : Calls Try.prog 28 #[.int .i64 n] w fun e w' => e = .returned (.bool (!sizeB n)) ∧ w = w' := by
  have SA := Lib.hid fun wx => size_any n wx
  cases hs : sizeB n
  · rw [hs] at SA
    clear hs
    go_enter Try.func28, Try.ntmps28
    go_wp2_with (go_at_call 22; refine (SA.out _).mono ?_; rintro e w2 ⟨rfl, rfl⟩)
    go_ret
    exact ⟨rfl, rfl⟩
  · rw [hs] at SA
    clear hs
    go_enter Try.func28, Try.ntmps28
    go_wp2_with (go_at_call 22; refine (SA.out _).mono ?_; rintro e w2 ⟨rfl, rfl⟩)
    go_ret
    exact ⟨rfl, rfl⟩
def negOk (n : Int) : Bool := decide (0 ≤ n)
def allN (ss : List Int) : Bool := ss.all negOk
theorem negBad_any (n : Int) (w : World) : Calls Try.prog 34 #[.int .i64 n] w fun e w' => e = .returned (.bool (!negOk n)) ∧ w = w' := by
  unfold negOk
  by_cases h : n < 0
  · have e1 : decide (n < 0) = true := decide_eq_true h
    rw [decide_eq_false (show ¬ 0 ≤ n by omega)]
    go_enter Try.func34, Try.ntmps34
    go_wp2
    go_ret
    exact ⟨rfl, rfl⟩
  · have e1 : decide (n < 0) = false := decide_eq_false h
    rw [decide_eq_true (show 0 ≤ n by omega)]
    go_enter Try.func34, Try.ntmps34
    go_wp2
    go_ret
    exact ⟨rfl, rfl⟩
theorem all_bad {p : Int → Bool} {l : List Int} {i : Nat} (h : i < l.length) (hb : p l[i] = false) : l.all p = false := by
  cases ha : l.all p with
  | false => rfl
  | true =>
    have := List.all_eq_true.1 ha _ (List.getElem_mem h)
    rw [hb] at this
    cases this
def goodTo (p : Int → Bool) (l : List Int) (n : Nat) : Prop := ∀ i, i < n → ∀ h : i < l.length, p l[i] = true
theorem good_all {p : Int → Bool} {l : List Int} (h : goodTo p l l.length) : l.all p = true := List.all_eq_true.2 fun d hd => by
  obtain ⟨i, hi, rfl⟩ := List.getElem_of_mem hd
  exact h i hi hi
theorem goodTo.snoc {p : Int → Bool} {l : List Int} {n : Nat} (h : goodTo p l n) (hv : ∀ h : n < l.length, p l[n] = true) : goodTo p l (n + 1) := fun i hi hl => by
  by_cases e : i = n
  · subst e; exact hv hl
  · exact h i (by omega) hl

set_option maxRecDepth 100000 in
set_option maxHeartbeats 1000000 in
theorem indexSize_any (ao : Option Addr) (cap : Nat) (l : List Int) (w : World) (h : IntRow w ao l) (hl : l.length ≤ 9223372036854775806) :
    Calls Try.prog 40 #[.slice ao l.length cap, .func (.func 28) #[] #[]] w fun e w' => ∃ k : Int, e = .returned (.int .i64 k) ∧ decide (0 ≤ k) = !l.all sizeB ∧ w = w' := by
  have HR := Lib.hid h
  have HL := Lib.hid hl
  clear h hl
  go_enter Try.func40, Try.ntmps40
  go_wp2_with fail
  go_loopw [8] (fun i wr => ∃ k : Nat, i = .int .i64 k ∧ k ≤ l.length ∧ goodTo sizeB l k ∧ w = wr) (fun i _ => l.length - (intOf i).toNat)
  case atStart => exact ⟨0, rfl, Nat.zero_le _, (fun i h => absurd h (Nat.not_lt_zero i)), rfl⟩
  case round =>
    obtain ⟨k, rfl, hk, hok, rfl⟩ := hrel
    have HK := Lib.hid hok
    clear hok
    by_cases hlt : k < l.length
    · rcases HR.out with h0 | ⟨b, off, rfl, hb, hp⟩
      · subst h0; exact absurd hlt (by simp)
      have c0 := hp k hlt
      obtain ⟨p, hpp⟩ : ∃ p, l[k] = p := ⟨_, rfl⟩
      rw [hpp] at c0
      have HPP := Lib.hid hpp
      have CC := Lib.hid (sizeBad_any p w)
      obtain ⟨r, hr⟩ : ∃ r, sizeB p = r := ⟨_, rfl⟩
      rw [hr] at CC
      have HRR := Lib.hid hr
      have hk1 : (k : Int) < (l.length : Int) := by omega
      have hk2 : (k : Int) + 1 ≤ 9223372036854775807 := by have := HL.out; omega
      have hk0 : (0 : Int) ≤ (k : Int) := by omega
      clear hpp hr hp
      cases r
      · go_wp2_with (go_at_call 28; refine CC.out.mono ?_; rintro e w2 ⟨rfl, rfl⟩)
        go_ret
        exact ⟨k, rfl, by rw [all_bad hlt (by rw [HPP.out]; exact HRR.out)]; simp, rfl⟩
      · go_wp2_with (go_at_call 28; refine CC.out.mono ?_; rintro e w2 ⟨rfl, rfl⟩)
        exact ⟨⟨k + 1, by go_num, hlt, HK.out.snoc fun _ => by rw [HPP.out]; exact HRR.out, by first | rfl | trivial⟩, by simp [intOf]; omega⟩
    · obtain rfl : k = l.length := by omega
      have HA : Hid (l.all sizeB = true) := Lib.hid (good_all HK.out)
      go_wp2_with fail
      go_ret
      exact ⟨-1, rfl, by rw [HA.out]; rfl, rfl⟩
set_option maxHeartbeats 1000000 in
theorem anySize_any (ao : Option Addr) (cap : Nat) (l : List Int) (w : World) (h : IntRow w ao l) (hl : l.length ≤ 9223372036854775806) :
    Calls Try.prog 27 #[.slice ao l.length cap, .func (.func 28) #[] #[]] w fun e w' => e = .returned (.bool (!l.all sizeB)) ∧ w = w' := by
  have IX := Lib.hid (indexSize_any ao cap l w h hl)
  clear h hl
  go_enter Try.func27, Try.ntmps27
  go_wp2_with (go_at_call 40; refine IX.out.mono ?_; rintro e w1 ⟨k, rfl, hk, rfl⟩; have HK := Lib.hid hk; clear hk)
  go_ret
  exact ⟨ret_bool HK.out, rfl⟩

set_option maxRecDepth 100000 in
set_option maxHeartbeats 1000000 in
theorem indexNeg_any (ao : Option Addr) (cap : Nat) (l : List Int) (w : World) (h : IntRow w ao l) (hl : l.length ≤ 9223372036854775806) :
    Calls Try.prog 40 #[.slice ao l.length cap, .func (.func 34) #[] #[]] w fun e w' => ∃ k : Int, e = .returned (.int .i64 k) ∧ decide (0 ≤ k) = !l.all negOk ∧ w = w' := by
  have HR := Lib.hid h
  have HL := Lib.hid hl
  clear h hl
  go_enter Try.func40, Try.ntmps40
  go_wp2_with fail
  go_loopw [8] (fun i wr => ∃ k : Nat, i = .int .i64 k ∧ k ≤ l.length ∧ goodTo negOk l k ∧ w = wr) (fun i _ => l.length - (intOf i).toNat)
  case atStart => exact ⟨0, rfl, Nat.zero_le _, (fun i h => absurd h (Nat.not_lt_zero i)), rfl⟩
  case round =>
    obtain ⟨k, rfl, hk, hok, rfl⟩ := hrel
    have HK := Lib.hid hok
    clear hok
    by_cases hlt : k < l.length
    · rcases HR.out with h0 | ⟨b, off, rfl, hb, hp⟩
      · subst h0; exact absurd hlt (by simp)
      have c0 := hp k hlt
      obtain ⟨p, hpp⟩ : ∃ p, l[k] = p := ⟨_, rfl⟩
      rw [hpp] at c0
      have HPP := Lib.hid hpp
      have CC := Lib.hid (negBad_any p w)
      obtain ⟨r, hr⟩ : ∃ r, negOk p = r := ⟨_, rfl⟩
      rw [hr] at CC
      have HRR := Lib.hid hr
      have hk1 : (k : Int) < (l.length : Int) := by omega
      have hk2 : (k : Int) + 1 ≤ 9223372036854775807 := by have := HL.out; omega
      have hk0 : (0 : Int) ≤ (k : Int) := by omega
      clear hpp hr hp
      cases r
      · go_wp2_with (go_at_call 34; refine CC.out.mono ?_; rintro e w2 ⟨rfl, rfl⟩)
        go_ret
        exact ⟨k, rfl, by rw [all_bad hlt (by rw [HPP.out]; exact HRR.out)]; simp, rfl⟩
      · go_wp2_with (go_at_call 34; refine CC.out.mono ?_; rintro e w2 ⟨rfl, rfl⟩)
        exact ⟨⟨k + 1, by go_num, hlt, HK.out.snoc fun _ => by rw [HPP.out]; exact HRR.out, by first | rfl | trivial⟩, by simp [intOf]; omega⟩
    · obtain rfl : k = l.length := by omega
      have HA : Hid (l.all negOk = true) := Lib.hid (good_all HK.out)
      go_wp2_with fail
      go_ret
      exact ⟨-1, rfl, by rw [HA.out]; rfl, rfl⟩
set_option maxHeartbeats 1000000 in
theorem anyNeg_any (ao : Option Addr) (cap : Nat) (l : List Int) (w : World) (h : IntRow w ao l) (hl : l.length ≤ 9223372036854775806) :
    Calls Try.prog 27 #[.slice ao l.length cap, .func (.func 34) #[] #[]] w fun e w' => e = .returned (.bool (!l.all negOk)) ∧ w = w' := by
  have IX := Lib.hid (indexNeg_any ao cap l w h hl)
  clear h hl
  go_enter Try.func27, Try.ntmps27
  go_wp2_with (go_at_call 40; refine IX.out.mono ?_; rintro e w1 ⟨k, rfl, hk, rfl⟩; have HK := Lib.hid hk; clear hk)
  go_ret
  exact ⟨ret_bool HK.out, rfl⟩

/-- What Sizes returns, and its error. -/
def sizL (id : Int) (b : ByteArray) (ss : List Int) : List Pc := if msgB id b = true then (if allS ss = true then cutP id (gS ss) 0 b else []) else []
def sizE (id : Int) (b : ByteArray) (ss : List Int) : Int := if msgB id b = true then (if allS ss = true then 0 else 7) else 1
theorem sizL_len (id : Int) (b : ByteArray) (ss : List Int) : (sizL id b ss).length ≤ b.size + 1 := by
  unfold sizL
  split
  · split
    · exact cut_len id _ b.size 0 b (Nat.le_refl _)
    · simp
  · simp

set_option maxRecDepth 100000 in
set_option maxHeartbeats 2000000 in
theorem sizes_any (id : Int) (b : ByteArray) (ao : Option Addr) (cap : Nat) (ss : List Int) (w : World) (h : IntRow w ao ss) (hl : ss.length ≤ 1000000) :
    Calls Try.prog 9 #[.int .i64 id, .string b, .slice ao ss.length cap] w (RowPost w (sizL id b ss) (sizE id b ss)) := by
  have hb : Below w.heap.size w (w.alloc (.cells #[.slice ao ss.length cap] 22)) := (Below.refl _ _).alloc (Nat.le_refl _) _
  have HB := Lib.hid hb
  have MA := Lib.hid fun wx => msg_any id b wx
  have SA := Lib.hid (anySize_any ao cap ss _ (h.below hb) (by omega))
  rw [show ss.all sizeB = allS ss from rfl] at SA
  have HXZ := Lib.hid (Boxed.new w 22 (.slice ao ss.length cap))
  cases hm : msgB id b
  · have H1 : Hid (sizL id b ss = []) := Lib.hid (by unfold sizL; rw [if_neg (by rw [hm]; decide)])
    have H2 : Hid (sizE id b ss = 1) := Lib.hid (by unfold sizE; rw [if_neg (by rw [hm]; decide)])
    rw [hm] at MA
    clear hm h hl hb
    rw [H1.out, H2.out]
    go_enter Try.func9, Try.ntmps9
    go_wp2_with (go_at_call 21; refine (MA.out _).mono ?_; rintro e w2 ⟨rfl, rfl⟩)
    go_ret2
    exact RowPost.nil rfl rfl HB.out
  · cases hs : allS ss
    · have H1 : Hid (sizL id b ss = []) := Lib.hid (by unfold sizL; rw [if_pos hm, if_neg (by rw [hs]; decide)])
      have H2 : Hid (sizE id b ss = 7) := Lib.hid (by unfold sizE; rw [if_pos hm, if_neg (by rw [hs]; decide)])
      rw [hm] at MA
      rw [hs] at SA
      clear hm hs h hl hb
      rw [H1.out, H2.out]
      go_enter Try.func9, Try.ntmps9
      go_wp2_with (first | (go_at_call 21; refine (MA.out _).mono ?_; rintro e w2 ⟨rfl, rfl⟩) | (go_at_call 27; refine SA.out.mono ?_; rintro e w2 ⟨rfl, rfl⟩))
      go_ret2
      exact RowPost.nil rfl rfl HB.out
    · have H1 : Hid (sizL id b ss = cutP id (gS ss) 0 b) := Lib.hid (by unfold sizL; rw [if_pos hm, if_pos hs])
      have H2 : Hid (sizE id b ss = 0) := Lib.hid (by unfold sizE; rw [if_pos hm, if_pos hs])
      obtain ⟨w1, hw1⟩ : ∃ w1, w.alloc (.cells #[.slice ao ss.length cap] 22) = w1 := ⟨_, rfl⟩
      have hb1 : Below w.heap.size w w1 := hw1 ▸ hb
      have hz1 : w.heap.size < w1.heap.size := by rw [← hw1]; simp
      have hbz : Boxed w1 w.heap.size 22 (.slice ao ss.length cap) := hw1 ▸ HXZ.out
      have hbel2 : Below w1.heap.size w1 (w1.alloc (.cells #[.int .i64 0] 3)) := (Below.refl _ _).alloc (Nat.le_refl _) _
      have hns : ∃ bs off, NsI w1.heap.size w.heap.size ao bs off cap ss 0 (w1.alloc (.cells #[.int .i64 0] 3)) ∧ (ss ≠ [] → bs ≠ w1.heap.size) := by
        rcases h with h0 | ⟨bs, off, h1, h2, h3⟩
        · exact ⟨0, 0, ⟨Boxed.new w1 3 (.int .i64 0), hbz.alloc _, .inl h0⟩, fun e => absurd h0 e⟩
        · exact ⟨bs, off, ⟨Boxed.new w1 3 (.int .i64 0), hbz.alloc _, .inr ⟨h1, (h3.below hb1 h2).below hbel2 (by omega)⟩⟩, fun _ => by omega⟩
      obtain ⟨bs, off, hn1, hn2⟩ := hns
      have GA := Lib.hid (gatheredSizes_any id ss w1.heap.size w.heap.size ao bs off cap (by omega) hs hl b (msg_body hm) (w1.alloc (.cells #[.int .i64 0] 3)) hn1 hn2)
      have HW1 := Lib.hid hw1
      have HB1 := Lib.hid hb1
      have HB2 := Lib.hid hbel2
      have HZ1 := Lib.hid hz1
      have c0 := hbz.cell
      rw [hm] at MA
      rw [hs, hw1] at SA
      clear hm hs h hl hb hw1 hb1 hbel2 hn1 hn2 hbz hz1
      rw [H1.out, H2.out]
      go_enter Try.func9, Try.ntmps9
      go_wp2_with fail
      rw [show w.alloc (Obj.cells #[Value.slice ao ss.length cap] 22) = w1 from HW1.out]
      refine (MA.out _).mono ?_
      rintro e w2 ⟨rfl, rfl⟩
      go_wp2_with (first | (go_at_call 27; refine SA.out.mono ?_; rintro e w2 ⟨rfl, rfl⟩) | (go_at_call 23; refine GA.out.mono ?_; rintro e w2 ⟨sv, rfl, ho, ht⟩; have HO := Lib.hid ho; have HT := Lib.hid ht; clear ho ht))
      go_ret2
      refine RowPost.own HO.out rfl (HB1.out.trans ?_)
      have ht := HT.out
      have h2 := HB2.out
      exact ⟨ht.os.trans h2.os, ht.tape.trans h2.tape, ht.output.trans h2.output, Nat.le_trans h2.size ht.size, fun k hk => (ht.block k (Nat.lt_of_lt_of_le (Nat.lt_of_lt_of_le hk HB1.out.size) h2.size) (by have := HZ1.out; simp; omega)).trans (h2.block k (Nat.lt_of_lt_of_le hk HB1.out.size))⟩

set_option maxRecDepth 100000 in
set_option maxHeartbeats 4000000 in
theorem rsizes_any (id : Int) (b : ByteArray) (ao : Option Addr) (cap : Nat) (ss : List Int) (w : World) (h : IntRow w ao ss) (hl : ss.length ≤ 1000000) :
    Calls Try.prog 10 #[.int .i64 id, .string b, .slice ao ss.length cap] w (RowPost w (sizL id b ss) (sizE id b ss)) := by
  have MA := Lib.hid fun wx => rmsg_any id b wx
  have HR := Lib.hid h
  have HL := Lib.hid hl
  clear h hl
  cases hm : msgB id b
  · have H1 : Hid (sizL id b ss = []) := Lib.hid (by unfold sizL; rw [if_neg (by rw [hm]; decide)])
    have H2 : Hid (sizE id b ss = 1) := Lib.hid (by unfold sizE; rw [if_neg (by rw [hm]; decide)])
    rw [hm] at MA
    clear hm
    rw [H1.out, H2.out]
    go_enter Try.func10, Try.ntmps10
    go_wp2_with (go_at_call 25; refine (MA.out _).mono ?_; rintro e w2 ⟨rfl, rfl⟩)
    go_ret2
    exact RowPost.nil rfl rfl (Below.refl _ _)
  · have HMM := Lib.hid hm
    rw [hm] at MA
    clear hm
    obtain ⟨i0, hi, hz0, hz1, hz2⟩ := info_parts infoPc
    go_enter Try.func10, Try.ntmps10
    go_wp2_with (go_at_call 25; refine (MA.out _).mono ?_; rintro e w2 ⟨rfl, rfl⟩)
    go_loopw [19] (fun i wr => ∃ k : Nat, i = .int .i64 k ∧ k ≤ ss.length ∧ goodTo sizeB ss k ∧ w = wr) (fun i _ => ss.length - (intOf i).toNat)
    case atStart => exact ⟨0, rfl, Nat.zero_le _, (fun i h => absurd h (Nat.not_lt_zero i)), rfl⟩
    case round =>
      obtain ⟨k, rfl, hk, hok, rfl⟩ := hrel
      have HK := Lib.hid hok
      clear hok
      by_cases hlt : k < ss.length
      · rcases HR.out with h0 | ⟨b0, off, rfl, hb, hp⟩
        · subst h0; exact absurd hlt (by simp)
        have c0 := hp k hlt
        obtain ⟨p, hpp⟩ : ∃ p, ss[k] = p := ⟨_, rfl⟩
        rw [hpp] at c0
        have HPP := Lib.hid hpp
        have CC := Lib.hid (rsize_any p w)
        obtain ⟨r, hr⟩ : ∃ r, sizeB p = r := ⟨_, rfl⟩
        rw [hr] at CC
        have HRR := Lib.hid hr
        have hk1 : (k : Int) < (ss.length : Int) := by omega
        have hk2 : (k : Int) + 1 ≤ 1000001 := by have := HL.out; omega
        have hk0 : (0 : Int) ≤ (k : Int) := by omega
        clear hpp hr hp
        cases r
        · have H1 : Hid (sizL id b ss = []) := Lib.hid (by unfold sizL; rw [if_pos HMM.out, if_neg (by unfold allS; rw [all_bad hlt (by rw [HPP.out]; exact HRR.out)]; decide)])
          have H2 : Hid (sizE id b ss = 7) := Lib.hid (by unfold sizE; rw [if_pos HMM.out, if_neg (by unfold allS; rw [all_bad hlt (by rw [HPP.out]; exact HRR.out)]; decide)])
          rw [H1.out, H2.out]
          go_wp2_with (go_at_call 26; refine CC.out.mono ?_; rintro e w2 ⟨rfl, rfl⟩)
          go_ret2
          exact RowPost.nil rfl rfl (Below.refl _ _)
        · go_wp2_with (go_at_call 26; refine CC.out.mono ?_; rintro e w2 ⟨rfl, rfl⟩)
          exact ⟨⟨k + 1, by go_num, hlt, HK.out.snoc fun _ => by rw [HPP.out]; exact HRR.out, by first | rfl | trivial⟩, by simp [intOf]; omega⟩
      · obtain rfl : k = ss.length := by omega
        obtain ⟨all, hall⟩ : ∃ all, cutP id (gS ss) 0 b = all := ⟨_, rfl⟩
        have hs : allS ss = true := good_all HK.out
        have H1 : Hid (sizL id b ss = all) := Lib.hid (by unfold sizL; rw [if_pos HMM.out, if_pos hs]; exact hall)
        have H2 : Hid (sizE id b ss = 0) := Lib.hid (by unfold sizE; rw [if_pos HMM.out, if_pos hs])
        have HSS := Lib.hid hs
        have HBD := Lib.hid (msg_body HMM.out)
        have HALL := Lib.hid hall
        clear hs hall
        rw [H1.out, H2.out]
        go_wp2_with fail
        go_loopw [1, 10, 29] (fun bv v i wr => ∃ (pre : List Pc) (c : ByteArray), bv = .string c ∧ i = .int .i64 pre.length ∧ pre.length ≤ ss.length ∧ CtI w wr pre v ∧ pre ++ cutP id (gS ss) pre.length c = all ∧ pre.length + c.size ≤ 65536) (fun _ _ i _ => ss.length - (intOf i).toNat)
        case atStart => exact ⟨[], b, rfl, rfl, Nat.zero_le _, ⟨World.ownsRow_nil _ _ _ _, Below.refl _ _⟩, HALL.out, by have := HBD.out; simp; omega⟩
        case round =>
          obtain ⟨pre, c, rfl, rfl, hks, hinv, hpre, hkb⟩ := hrel
          have HI := Lib.hid hinv
          have HP := Lib.hid hpre
          have HKB := Lib.hid hkb
          obtain ⟨a0, c0, rfl⟩ := sl_len hinv.own
          have HPL : Hid (pre.length ≤ 65536) := Lib.hid (by omega)
          have g0 : (0 : Int) ≤ (pre.length : Int) := by omega
          have g5 : (pre.length : Int) ≤ 65536 := by omega
          clear hinv hpre hkb
          by_cases hkl : pre.length < ss.length
          · rcases HR.out with h0 | ⟨b0, off, rfl, hb, hp⟩
            · subst h0; exact absurd hkl (by simp)
            have q0 := (hp.below HI.out.below hb) pre.length hkl
            obtain ⟨sz, hsz, h1, h2⟩ := allS_at HSS.out pre.length hkl
            rw [hsz] at q0
            have hg := gS_at hkl hsz
            have k1 : (pre.length : Int) < (ss.length : Int) := by omega
            have g1 : (0 : Int) ≤ (sz : Int) := by omega
            have HKL := Lib.hid hkl
            clear hsz hp
            by_cases hlt : sz < c.size
            · have e2 : decide (c.size ≤ sz) = false := decide_eq_false (by omega)
              have e4 : (sz : Int) ≤ (c.size : Int) := by omega
              have hcm := cut_more (id := id) (b := c) hg (by omega) hlt
              have HX1 : Hid (pre ++ [⟨id, pre.length, true, c.extract 0 sz⟩] ++ cutP id (gS ss) (pre.length + 1) (c.extract sz c.size) = all) := Lib.hid (by rw [← HP.out, hcm]; simp)
              have HSD := Lib.hid (size_drop c sz)
              have HLT := Lib.hid hlt
              clear hcm hlt hg hkl
              go_wp2_with (at_builtin; refine wpList_append_own_at _ rfl _ _ 24 rfl w.heap.size 36 i0 (.agg #[.int .i64 0, .int .i64 0, .bool false, .string ⟨#[]⟩]) 4 40 under24 hi hz0 hz1 hz2 rfl (by decide) _ _ _ rfl (HI.out.own.alloc _) ⟨wr.heap.size, 0, none⟩ 1 1 [.int .i64 id, .int .i64 pre.length, .bool true, .string (c.extract 0 sz)] rfl rfl (cell_pc_new (heap_alloc_new _ _)) (by simp [Value.oneCell']) (by have := HPL.out; unfold maxLen; omega) (by have := HPL.out; omega) (by have := HI.out.below.size; simp; omega) ?_; intro v' w3 hown' hgrow _ _; have HI3 := Lib.hid (CtI.grown (HI.out.later ((Below.refl _ _).alloc (Nat.le_refl _) _)) hgrow hown'); clear hown' hgrow)
              refine ⟨⟨_, c.extract sz c.size, rfl, ?_, ?_, HI3.out, ?_, ?_⟩, ?_⟩
              · rw [List.length_append]; go_num
              · rw [List.length_append]; exact HKL.out
              · rw [List.length_append]; exact HX1.out
              · rw [HSD.out, List.length_append]; have := HKB.out; have := HLT.out; simp; omega
              · simp [intOf]; have := HKL.out; omega
            · have e2 : decide (c.size ≤ sz) = true := decide_eq_true (by omega)
              have hcm := cut_last (id := id) (b := c) hg (by omega)
              have HX1 : Hid (pre ++ [⟨id, pre.length, false, c⟩] = all) := Lib.hid (by rw [← HP.out, hcm])
              clear hcm hlt hg hkl
              go_wp2_with (at_builtin; refine wpList_append_own_at _ rfl _ _ 24 rfl w.heap.size 36 i0 (.agg #[.int .i64 0, .int .i64 0, .bool false, .string ⟨#[]⟩]) 4 40 under24 hi hz0 hz1 hz2 rfl (by decide) _ _ _ rfl (HI.out.own.alloc _) ⟨wr.heap.size, 0, none⟩ 1 1 [.int .i64 id, .int .i64 pre.length, .bool false, .string c] rfl rfl (cell_pc_new (heap_alloc_new _ _)) (by simp [Value.oneCell']) (by have := HPL.out; unfold maxLen; omega) (by have := HPL.out; omega) (by have := HI.out.below.size; simp; omega) ?_; intro v' w3 hown' hgrow _ _; have HI3 := Lib.hid (CtI.grown (HI.out.later ((Below.refl _ _).alloc (Nat.le_refl _) _)) hgrow hown'); clear hown' hgrow)
              go_ret2
              rw [H1.out, H2.out]
              exact RowPost.own (by have := HI3.out.own; rw [HX1.out] at this; exact this) rfl HI3.out.below
          · have hke : pre.length = ss.length := by omega
            have k1 : ¬ (pre.length : Int) < (ss.length : Int) := by omega
            have k2 : decide (pre.length < ss.length) = false := decide_eq_false (by omega)
            have hcm := cut_none (id := id) (b := c) (gS_end (ss := ss) (k := pre.length) (by omega))
            have HX1 : Hid (pre ++ [⟨id, pre.length, false, c⟩] = all) := Lib.hid (by rw [← HP.out, hcm])
            clear hcm hke hkl hks
            go_wp2_with (at_builtin; refine wpList_append_own_at _ rfl _ _ 24 rfl w.heap.size 36 i0 (.agg #[.int .i64 0, .int .i64 0, .bool false, .string ⟨#[]⟩]) 4 40 under24 hi hz0 hz1 hz2 rfl (by decide) _ _ _ rfl (HI.out.own.alloc _) ⟨wr.heap.size, 0, none⟩ 1 1 [.int .i64 id, .int .i64 pre.length, .bool false, .string c] rfl rfl (cell_pc_new (heap_alloc_new _ _)) (by simp [Value.oneCell']) (by have := HPL.out; unfold maxLen; omega) (by have := HPL.out; omega) (by have := HI.out.below.size; simp; omega) ?_; intro v' w3 hown' hgrow _ _; have HI3 := Lib.hid (CtI.grown (HI.out.later ((Below.refl _ _).alloc (Nat.le_refl _) _)) hgrow hown'); clear hown' hgrow)
            go_ret2
            rw [H1.out, H2.out]
            exact RowPost.own (by have := HI3.out.own; rw [HX1.out] at this; exact this) rfl HI3.out.below

end Go.Proofs.Ytclhnpbjmefpeaa
