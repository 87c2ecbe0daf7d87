/- The contract of policy.Agree where it takes the policies on: the row that is kept, or the first pair that clashes. -/
import Derived.Test.YtladjkkkhomngaaDoorS
namespace Go.Proofs.YtladjkkkhomngaaDoor
set_option maxRecDepth 8000
open Go.RowKit Go.Sort Go.BigFrame

/-- The first n of the policies with which a call is made, the defaults among them. -/
def agL (c s : List PolD) : Nat → List PolD
  | 0 => []
  | n + 1 => agL c s n ++ [⟨8 + n, agreedV c s (8 + n)⟩]
theorem agL_len (c s : List PolD) : ∀ n, (agL c s n).length = n
  | 0 => rfl
  | n + 1 => by rw [agL, List.length_append, agL_len c s n]; rfl

/-- What a round of Agree knows. -/
structure AgI (w wr : World) (c s : List PolD) (k : Nat) (sv : Value) : Prop where
  own : wr.ownsRow w.heap.size 24 2 sv k (polCells (agL c s k))
  below : Below w.heap.size w wr
theorem AgI.later {w wr wx : World} {c s : List PolD} {k : Nat} {sv : Value} (h : AgI w wr c s k sv) (hb : Below wr.heap.size wr wx) : AgI w wx c s k sv :=
  ⟨ownsRow_below h.own hb, h.below.trans (hb.mono h.below.size)⟩
theorem AgI.grown {w wr wx : World} {c s : List PolD} {k : Nat} {sv sv' : Value} {q v : Int} (h : AgI w wr c s k sv) (hg : wr.grownBy wx sv.ownBlock) (ho : wx.ownsRow w.heap.size 24 2 sv' (k + 1) (polCells (agL c s k) ++ [.int .i64 q, .int .i64 v]))
    (hq : (8 : Int) + k = q) (hv : agreedV c s q = v) : AgI w wx c s (k + 1) sv' := by
  subst hq hv
  refine ⟨?_, ?_⟩
  · rw [agL, polCells_snoc]
    exact ho
  · refine ⟨hg.os.trans h.below.os, hg.tape.trans h.below.tape, hg.output.trans h.below.output, Nat.le_trans h.below.size hg.size, fun j hj => (hg.block j (Nat.lt_of_lt_of_le hj h.below.size) fun e => ?_).trans (h.below.block j hj)⟩
    have := (h.own.lt j e.symm).1
    omega

theorem agL_isK (c s : List PolD) : ∀ n, n ≤ 6 → ∀ x ∈ agL c s n, isK x.k = true
  | 0, _, x, hx => by cases hx
  | n + 1, hn, x, hx => by
    rw [agL, List.mem_append] at hx
    rcases hx with h | h
    · exact agL_isK c s n (by omega) x h
    · obtain rfl := List.mem_singleton.1 h
      simp only [isK, Bool.and_eq_true, decide_eq_true_eq]
      omega
theorem own_zero {W : World} {base : Nat} {e : TypeId} {size : Nat} {sv : Value} {xs : List Value} (h : W.ownsRow base e size sv 0 xs) : ∃ ao cap, sv = .slice ao 0 cap := by
  rcases h.2 with ⟨rfl, _⟩ | ⟨g, cap, _, rfl, _⟩
  · exact ⟨_, _, rfl⟩
  · exact ⟨_, _, rfl⟩

set_option maxRecDepth 100000 in
set_option maxHeartbeats 4000000 in
theorem agree_go (ao1 ao2 : Option Addr) (cap1 cap2 : Nat) (c s : List PolD) (w : World) (hS : SortsAt w) (h1 : RowAt w ao1 c) (h2 : RowAt w ao2 s) (hl1 : c.length ≤ 9223372036854775807) (hl2 : s.length ≤ 9223372036854775807) (k1 : okS c = true) (k2 : okS s = true) (k3 : ¬ valOf s 11 < valOf c 11)
    (hK : okS (keptTo (agL c s 6) 6) = true) (hnil : clTo (keptTo (agL c s 6) 6) 7 = []) :
    Calls Tryd.prog 32 #[.slice ao1 c.length cap1, .slice ao2 s.length cap2] w fun e w' => ∃ sv, e = .returned (.tuple #[sv, .int .i64 0, .int .i64 0]) ∧ w'.ownsRow w.heap.size 24 2 sv (keptTo (agL c s 6) 6).length (polCells (keptTo (agL c s 6) 6)) ∧ Below w.heap.size w w' := by
  have VC := Lib.hid (validSet_any ao1 cap1 c w hS h1 hl1)
  have VS := Lib.hid fun wx (hx : Below w.heap.size w wx) => validSet_any ao2 cap2 s wx (hS.below hx hS.pos) (h2.below hx) hl2
  have GC := Lib.hid fun wx (hx : Below w.heap.size w wx) => get_any ao1 cap1 c 11 wx (hS.below hx hS.pos) (by decide) (h1.below hx) hl1
  have GS := Lib.hid fun wx (hx : Below w.heap.size w wx) => get_any ao2 cap2 s 11 wx (hS.below hx hS.pos) (by decide) (h2.below hx) hl2
  have A8 := Lib.hid fun wx (hx : Below w.heap.size w wx) => agreed8 ao1 ao2 cap1 cap2 c s wx (hS.below hx hS.pos) (h1.below hx) (h2.below hx) hl1 hl2
  have A9 := Lib.hid fun wx (hx : Below w.heap.size w wx) => agreed9 ao1 ao2 cap1 cap2 c s wx (hS.below hx hS.pos) (h1.below hx) (h2.below hx) hl1 hl2 k1 k2
  have A10 := Lib.hid fun wx (hx : Below w.heap.size w wx) => agreed10 ao1 ao2 cap1 cap2 c s wx (hS.below hx hS.pos) (h1.below hx) (h2.below hx) hl1 hl2
  have A11 := Lib.hid fun wx (hx : Below w.heap.size w wx) => agreed11 ao1 ao2 cap1 cap2 c s wx (hS.below hx hS.pos) (h1.below hx) (h2.below hx) hl1 hl2
  have A12 := Lib.hid fun wx (hx : Below w.heap.size w wx) => agreed12 ao1 ao2 cap1 cap2 c s wx (hS.below hx hS.pos) (h1.below hx) (h2.below hx) hl1 hl2
  have A13 := Lib.hid fun wx (hx : Below w.heap.size w wx) => agreed13 ao1 ao2 cap1 cap2 c s wx (hS.below hx hS.pos) (h1.below hx) (h2.below hx) hl1 hl2
  have HS := Lib.hid fun wx (hx : Below w.heap.size w wx) => hS.below hx hS.pos
  have HNIL := Lib.hid hnil
  have HOK := Lib.hid hK
  rw [k1] at VC
  rw [k2] at VS
  obtain ⟨a, ha⟩ : ∃ a, valOf c 11 = a := ⟨_, rfl⟩
  obtain ⟨b, hb⟩ : ∃ b, valOf s 11 = b := ⟨_, rfl⟩
  rw [ha] at GC k3
  rw [hb] at GS k3
  have e1 : decide (b < a) = false := by simpa using k3
  clear hS h1 hl1 k1 h2 hl2 k2 k3 ha hb hK hnil
  obtain ⟨i0, hi, hz0, hz1, hz2⟩ := info_parts Tryd.info46
  go_enter Tryd.func32, Tryd.ntmps32
  go_wp2_with (first | (go_at_call 13; (fail_if_success (have := B1)); refine VC.out.mono ?_; rintro e w1 ⟨rfl, hb1⟩; have B1 := Lib.hid hb1; clear hb1) | (go_at_call 13; refine (VS.out _ B1.out).mono ?_; rintro e w2 ⟨rfl, hb2⟩; have B2 := Lib.hid (B1.out.trans (hb2.mono B1.out.size)); clear hb2) | (go_at_call 40; (fail_if_success (have := B3)); refine (GC.out _ B2.out).mono ?_; rintro e w3 ⟨rfl, hb3⟩; have B3 := Lib.hid (B2.out.trans (hb3.mono B2.out.size)); clear hb3) | (go_at_call 40; refine (GS.out _ B3.out).mono ?_; rintro e w4 ⟨rfl, hb4⟩; have B4 := Lib.hid (B3.out.trans (hb4.mono B3.out.size)); clear hb4))
  have I0 : Hid (AgI w w4 c s 0 (.slice none 0 0)) := Lib.hid ⟨World.ownsRow_nil _ _ _ _, B4.out⟩
  go_loopw [11, 12] (fun v i wr => ∃ k : Nat, i = .int .i64 ((8 : Int) + k) ∧ k ≤ 6 ∧ AgI w wr c s k v) (fun _ i _ => 14 - (intOf i).toNat)
  case atStart => exact ⟨0, rfl, by omega, I0.out⟩
  case round =>
    obtain ⟨k, rfl, hk, hinv⟩ := hrel
    have HI := Lib.hid hinv
    clear hinv
    have hh : k = 0 ∨ k = 1 ∨ k = 2 ∨ k = 3 ∨ k = 4 ∨ k = 5 ∨ k = 6 := by omega
    clear hk
    rcases hh with rfl | rfl | rfl | rfl | rfl | rfl | rfl
    · obtain ⟨v, hv⟩ : ∃ v, agreedV c s 8 = v := ⟨_, rfl⟩
      have AG := Lib.hid (A8.out _ HI.out.below)
      rw [hv] at AG
      have HV := Lib.hid hv
      clear hv
      go_wp2_with (first | (go_at_call 63; refine AG.out.mono ?_; rintro e w5 ⟨rfl, hb5⟩; have HI5 := Lib.hid (HI.out.later hb5); clear hb5) | (at_builtin; refine wpList_append_own_at _ rfl _ _ 22 rfl w.heap.size 24 i0 (.agg #[.int .i64 0, .int .i64 0]) 2 16 under22 hi hz0 hz1 hz2 rfl (by decide) _ _ _ rfl (HI5.out.own.alloc _) ⟨w5.heap.size, 0, none⟩ 1 1 [.int .i64 8, .int .i64 v] rfl rfl (cell_pol_new (heap_alloc_new _ _)) (by simp [Value.oneCell']) (by unfold maxLen; omega) (by omega) (by have := HI5.out.below.size; simp; omega) ?_; intro v' w6 hown' hgrow _ _; have HI6 := Lib.hid (AgI.grown (HI5.out.later ((Below.refl _ _).alloc (Nat.le_refl _) _)) hgrow hown' (by decide) HV.out); clear hown' hgrow))
      exact ⟨⟨1, rfl, by omega, HI6.out⟩, by simp [intOf]⟩
    · obtain ⟨v, hv⟩ : ∃ v, agreedV c s 9 = v := ⟨_, rfl⟩
      have AG := Lib.hid (A9.out _ HI.out.below)
      rw [hv] at AG
      have HV := Lib.hid hv
      clear hv
      go_wp2_with (first | (go_at_call 63; refine AG.out.mono ?_; rintro e w5 ⟨rfl, hb5⟩; have HI5 := Lib.hid (HI.out.later hb5); clear hb5) | (at_builtin; refine wpList_append_own_at _ rfl _ _ 22 rfl w.heap.size 24 i0 (.agg #[.int .i64 0, .int .i64 0]) 2 16 under22 hi hz0 hz1 hz2 rfl (by decide) _ _ _ rfl (HI5.out.own.alloc _) ⟨w5.heap.size, 0, none⟩ 1 1 [.int .i64 9, .int .i64 v] rfl rfl (cell_pol_new (heap_alloc_new _ _)) (by simp [Value.oneCell']) (by unfold maxLen; omega) (by omega) (by have := HI5.out.below.size; simp; omega) ?_; intro v' w6 hown' hgrow _ _; have HI6 := Lib.hid (AgI.grown (HI5.out.later ((Below.refl _ _).alloc (Nat.le_refl _) _)) hgrow hown' (by decide) HV.out); clear hown' hgrow))
      exact ⟨⟨2, rfl, by omega, HI6.out⟩, by simp [intOf]⟩
    · obtain ⟨v, hv⟩ : ∃ v, agreedV c s 10 = v := ⟨_, rfl⟩
      have AG := Lib.hid (A10.out _ HI.out.below)
      rw [hv] at AG
      have HV := Lib.hid hv
      clear hv
      go_wp2_with (first | (go_at_call 63; refine AG.out.mono ?_; rintro e w5 ⟨rfl, hb5⟩; have HI5 := Lib.hid (HI.out.later hb5); clear hb5) | (at_builtin; refine wpList_append_own_at _ rfl _ _ 22 rfl w.heap.size 24 i0 (.agg #[.int .i64 0, .int .i64 0]) 2 16 under22 hi hz0 hz1 hz2 rfl (by decide) _ _ _ rfl (HI5.out.own.alloc _) ⟨w5.heap.size, 0, none⟩ 1 1 [.int .i64 10, .int .i64 v] rfl rfl (cell_pol_new (heap_alloc_new _ _)) (by simp [Value.oneCell']) (by unfold maxLen; omega) (by omega) (by have := HI5.out.below.size; simp; omega) ?_; intro v' w6 hown' hgrow _ _; have HI6 := Lib.hid (AgI.grown (HI5.out.later ((Below.refl _ _).alloc (Nat.le_refl _) _)) hgrow hown' (by decide) HV.out); clear hown' hgrow))
      exact ⟨⟨3, rfl, by omega, HI6.out⟩, by simp [intOf]⟩
    · obtain ⟨v, hv⟩ : ∃ v, agreedV c s 11 = v := ⟨_, rfl⟩
      have AG := Lib.hid (A11.out _ HI.out.below)
      rw [hv] at AG
      have HV := Lib.hid hv
      clear hv
      go_wp2_with (first | (go_at_call 63; refine AG.out.mono ?_; rintro e w5 ⟨rfl, hb5⟩; have HI5 := Lib.hid (HI.out.later hb5); clear hb5) | (at_builtin; refine wpList_append_own_at _ rfl _ _ 22 rfl w.heap.size 24 i0 (.agg #[.int .i64 0, .int .i64 0]) 2 16 under22 hi hz0 hz1 hz2 rfl (by decide) _ _ _ rfl (HI5.out.own.alloc _) ⟨w5.heap.size, 0, none⟩ 1 1 [.int .i64 11, .int .i64 v] rfl rfl (cell_pol_new (heap_alloc_new _ _)) (by simp [Value.oneCell']) (by unfold maxLen; omega) (by omega) (by have := HI5.out.below.size; simp; omega) ?_; intro v' w6 hown' hgrow _ _; have HI6 := Lib.hid (AgI.grown (HI5.out.later ((Below.refl _ _).alloc (Nat.le_refl _) _)) hgrow hown' (by decide) HV.out); clear hown' hgrow))
      exact ⟨⟨4, rfl, by omega, HI6.out⟩, by simp [intOf]⟩
    · obtain ⟨v, hv⟩ : ∃ v, agreedV c s 12 = v := ⟨_, rfl⟩
      have AG := Lib.hid (A12.out _ HI.out.below)
      rw [hv] at AG
      have HV := Lib.hid hv
      clear hv
      go_wp2_with (first | (go_at_call 63; refine AG.out.mono ?_; rintro e w5 ⟨rfl, hb5⟩; have HI5 := Lib.hid (HI.out.later hb5); clear hb5) | (at_builtin; refine wpList_append_own_at _ rfl _ _ 22 rfl w.heap.size 24 i0 (.agg #[.int .i64 0, .int .i64 0]) 2 16 under22 hi hz0 hz1 hz2 rfl (by decide) _ _ _ rfl (HI5.out.own.alloc _) ⟨w5.heap.size, 0, none⟩ 1 1 [.int .i64 12, .int .i64 v] rfl rfl (cell_pol_new (heap_alloc_new _ _)) (by simp [Value.oneCell']) (by unfold maxLen; omega) (by omega) (by have := HI5.out.below.size; simp; omega) ?_; intro v' w6 hown' hgrow _ _; have HI6 := Lib.hid (AgI.grown (HI5.out.later ((Below.refl _ _).alloc (Nat.le_refl _) _)) hgrow hown' (by decide) HV.out); clear hown' hgrow))
      exact ⟨⟨5, rfl, by omega, HI6.out⟩, by simp [intOf]⟩
    · obtain ⟨v, hv⟩ : ∃ v, agreedV c s 13 = v := ⟨_, rfl⟩
      have AG := Lib.hid (A13.out _ HI.out.below)
      rw [hv] at AG
      have HV := Lib.hid hv
      clear hv
      go_wp2_with (first | (go_at_call 63; refine AG.out.mono ?_; rintro e w5 ⟨rfl, hb5⟩; have HI5 := Lib.hid (HI.out.later hb5); clear hb5) | (at_builtin; refine wpList_append_own_at _ rfl _ _ 22 rfl w.heap.size 24 i0 (.agg #[.int .i64 0, .int .i64 0]) 2 16 under22 hi hz0 hz1 hz2 rfl (by decide) _ _ _ rfl (HI5.out.own.alloc _) ⟨w5.heap.size, 0, none⟩ 1 1 [.int .i64 13, .int .i64 v] rfl rfl (cell_pol_new (heap_alloc_new _ _)) (by simp [Value.oneCell']) (by unfold maxLen; omega) (by omega) (by have := HI5.out.below.size; simp; omega) ?_; intro v' w6 hown' hgrow _ _; have HI6 := Lib.hid (AgI.grown (HI5.out.later ((Below.refl _ _).alloc (Nat.le_refl _) _)) hgrow hown' (by decide) HV.out); clear hown' hgrow))
      exact ⟨⟨6, rfl, by omega, HI6.out⟩, by simp [intOf]⟩
    · obtain ⟨ao3, cap3, rfl, hr3⟩ := row_of_own (l := agL c s 6) (by rw [agL_len]; exact HI.out.own)
      have hkind : ∀ i (h : i < (agL c s 6).length), isK (agL c s 6)[i].k = true := fun i h => agL_isK c s 6 (Nat.le_refl _) _ (List.getElem_mem h)
      have kp := kept_any ao3 cap3 (agL c s 6) wr (HS.out wr HI.out.below) hr3 (by rw [agL_len]; omega) hkind
      rw [agL_len] at kp
      obtain ⟨K, hKK⟩ : ∃ K, keptTo (agL c s 6) 6 = K := ⟨_, rfl⟩
      have kq : Calls Tryd.prog 64 #[.slice ao3 6 cap3, .func (.func 52) #[] #[]] wr fun e w' => ∃ sv, e = .returned sv ∧ w'.ownsRow wr.heap.size 24 2 sv K.length (polCells K) ∧ Below wr.heap.size wr w' :=
        kp.mono fun _ _ ⟨sv, he, hi⟩ => ⟨sv, he, hKK ▸ hi.own, hi.below⟩
      have KQ := Lib.hid kq
      have HN := HNIL.out
      have HO := HOK.out
      rw [hKK] at HN HO
      have hKl : K.length ≤ 6 := by rw [← hKK]; exact keptTo_len _ _
      have cq : ∀ w7 ao cap, Below w.heap.size w w7 → RowAt w7 ao K → Calls Tryd.prog 31 #[.slice ao K.length cap] w7 fun e w' => ∃ ao' cap', e = .returned (.tuple #[.slice ao' 0 cap', .int .i64 0]) ∧ Below w7.heap.size w7 w' := fun w7 ao cap hb hr =>
        (clashes_set ao cap K w7 (HS.out w7 hb) hr (by omega) HO).mono fun _ _ ⟨sv, bt, he, hc⟩ => by
          have ho := hc.own
          rw [HN] at ho
          obtain ⟨ao', cap', rfl⟩ := own_zero ho
          exact ⟨ao', cap', he, hc.below⟩
      have CQ := Lib.hid cq
      have HKK := Lib.hid hKK
      rw [agL_len]
      clear hkind kp kq cq HN HO hKK hKl hr3
      go_wp2_with (first | (go_at_call 64; refine KQ.out.mono ?_; rintro e w7 ⟨sv3, rfl, hown7, hb7⟩; obtain ⟨ao4, cap4, rfl, hr4⟩ := row_of_own hown7; have HO7 := Lib.hid hown7; have HR4 := Lib.hid hr4; have B7 := Lib.hid (HI.out.below.trans (hb7.mono HI.out.below.size)); have HB7 := Lib.hid hb7; clear hown7 hr4 hb7) | (go_at_call 31; refine (CQ.out w7 ao4 cap4 B7.out HR4.out).mono ?_; rintro e w8 ⟨ao5, cap5, rfl, hb8⟩; have B8 := Lib.hid hb8; clear hb8))
      go_loopw [60] (fun i wr' => i = .int .i64 0 ∧ wr' = w8) (fun _ _ => 0)
      case atStart => exact ⟨rfl, rfl⟩
      case round =>
        obtain ⟨rfl, rfl⟩ := hrel
        go_wp2_with fail
        go_ret3
        refine ⟨_, rfl, ?_, B7.out.trans (B8.out.mono B7.out.size)⟩
        rw [HKK.out]
        have h7 := ownsRow_below HO7.out B8.out
        exact ⟨h7.1, h7.2.imp id fun ⟨g, cap, cur, e1, e2, e3⟩ => ⟨g, cap, cur, e1, Nat.le_trans HI.out.below.size e2, e3⟩⟩

end Go.Proofs.YtladjkkkhomngaaDoor
