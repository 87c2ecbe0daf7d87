/- Rem in numbers; Abs. -/
import Derived.Test.YticbjhogdfpdkaaDoorXb
import Derived.Test.YticbjhogdfpdkaaDoorZo
namespace Go.Proofs.YticbjhogdfpdkaaDoor
set_option maxRecDepth 8000
open Go.RowKit Go.Shelf

def remV (a b : ByteArray) : Int := (vT a * 10 ^ (zT a b - sT a)).tmod (vT b * 10 ^ (zT a b - sT b))
theorem rem_any (a b : ByteArray) (w : World) (h : Env w) (ha : a.size ≤ 1000) (hb : b.size ≤ 1000) :
    Calls Tryd.prog 20 #[.string a, .string b] w fun e w' => e = .returned (.tuple #[.string (divT (okA a) (okA b) true (decide (vT b = 0)) (toldZ (remV a b) (zT a b))), .int .i64 (divE (okA a) (okA b) true (decide (vT b = 0)) (toldE (remV a b).natAbs (zT a b)))]) ∧ Below w.heap.size w w' := by
  by_cases ho : (okA a && okA b) = true
  · have ho2 := ho
    rw [Bool.and_eq_true] at ho
    obtain ⟨hoa, hob⟩ := ho
    obtain ⟨a1, a2, a3, a4⟩ := parse_ok hoa
    obtain ⟨b1, b2, b3, b4⟩ := parse_ok hob
    have hza : sT a ≤ zT a b := by unfold zT; omega
    have hzb : sT b ≤ zT a b := by unfold zT; omega
    have hz : zT a b ≤ 31 := by unfold zT; omega
    have ez : (max (sT a : Int) (sT b : Int)) = ((zT a b : Nat) : Int) := by unfold zT; omega
    obtain ⟨m1, m2⟩ := moved_up a1 hza (by omega)
    obtain ⟨m3, m4⟩ := moved_up b1 hzb (by omega)
    have hq : sg (parseB a) (moved (parseN a) ((zT a b : Int) - (sT a : Int)) % moved (parseN b) ((zT a b : Int) - (sT b : Int))) = remV a b := by
      rw [sg_mod (parseB a) (parseB b), moved_sg a1 hza (by omega), moved_sg b1 hzb (by omega), a4, b4]
      rfl
    have hNlt : moved (parseN a) ((zT a b : Int) - (sT a : Int)) % moved (parseN b) ((zT a b : Int) - (sT b : Int)) < 10 ^ 128 := Nat.lt_of_le_of_lt (Nat.mod_le _ _) (moved_lt (lt128 a1) _)
    refine (rem_texts a b (moved (parseN a) ((zT a b : Int) - (sT a : Int)) % moved (parseN b) ((zT a b : Int) - (sT b : Int))) (zT a b) (parseB a) w h ha hb (fun _ _ hz wx => ?_) hNlt (lt128 b1)).mono fun e w' ⟨he, hb⟩ => ⟨?_, hb⟩
    · rw [a2, b2]
      have := rest_any (parseN a) (parseN b) (sT a) (sT b) (parseB a) (parseB b) wx (lt128 a1) (lt128 b1) (by omega) (by omega) (by omega) (by omega) (by rw [ez, m3]; exact Nat.mul_pos (Nat.pos_of_ne_zero hz) (pow_pos _))
      rw [ez] at this
      exact this
    · have e1 : moved (parseN a) ((zT a b : Int) - (sT a : Int)) % moved (parseN b) ((zT a b : Int) - (sT b : Int)) = (remV a b).natAbs := by rw [← hq, sg_abs]
      have e2 : decide (parseN b = 0) = decide (vT b = 0) := by rw [← b4]; exact decide_eq_decide.2 sg_zero.symm
      rw [he, told_sg, hq, e1, e2]
      rfl
  · have hn : ∀ T z, divT (okA a) (okA b) true z T = ⟨#[]⟩ := fun T z => by
      unfold divT
      rw [if_neg]
      intro g
      rw [Bool.and_eq_true, Bool.and_true] at g
      exact ho g.1
    have hE : ∀ E z, divE (okA a) (okA b) true z E = 2 := fun E z => by
      unfold divE
      rw [if_neg ho]
    by_cases hob : okA b = true
    · refine (rem_texts a b 0 0 false w h ha hb (fun g1 g2 _ => absurd (show (okA a && okA b) = true by unfold okA; rw [g1, g2]; rfl) ho) (pow_pos _) (lt128 (parse_ok hob).1)).mono fun e w' ⟨he, hb⟩ => ⟨?_, hb⟩
      rw [he, hn, hE, show okT a.data.toList = okA a from rfl, show okT b.data.toList = okA b from rfl, hn, hE]
    · have hz : parseN b = 0 := by unfold parseN; rw [if_neg (show ¬ okT b.data.toList = true from hob)]
      refine (rem_texts a b 0 0 false w h ha hb (fun g1 g2 _ => absurd (show (okA a && okA b) = true by unfold okA; rw [g1, g2]; rfl) ho) (pow_pos _) (by rw [hz]; exact pow_pos _)).mono fun e w' ⟨he, hb⟩ => ⟨?_, hb⟩
      rw [he, hn, hE, show okT a.data.toList = okA a from rfl, show okT b.data.toList = okA b from rfl, hn, hE]

set_option maxRecDepth 100000 in
set_option maxHeartbeats 4000000 in
theorem abs1_any (n : Nat) (s : Int) (b : Bool) (w : World) : Calls Tryd.prog 76 #[.agg (nC n s b)] w fun e w' => e = .returned (.agg (nC n s false)) ∧ Below w.heap.size w w' := by
  have HA := Lib.hid (show NumAt ((w.alloc (.cells (nC n s false) 45)).alloc (.cells (nC 0 0 false) 45)) w.heap.size n s false from old_block _ _ _ _ (at_block _ _ _ rfl))
  have HR := Lib.hid (show NumAt ((w.alloc (.cells (nC n s false) 45)).alloc (.cells (nC 0 0 false) 45)) (w.heap.size + 1) 0 0 false from at_block _ _ _ (by simp))
  have HB := Lib.hid (show Below w.heap.size w ((w.alloc (.cells (nC n s false) 45)).alloc (.cells (nC 0 0 false) 45)) from ((Below.refl _ _).alloc (Nat.le_refl _) _).alloc (by simp) _)
  have g1 : ((w.alloc (.cells (nC n s b) 45)).alloc (.cells Tryd.zeroCells45 45)).cell? ⟨w.heap.size, 129, none⟩ = some (.bool b) := (show NumAt ((w.alloc (.cells (nC n s b) 45)).alloc (.cells Tryd.zeroCells45 45)) w.heap.size n s b from old_block _ _ _ _ (at_block _ _ _ rfl)).sign
  have g2 := frozen_at (show NumAt ((w.alloc (.cells (nC n s b) 45)).alloc (.cells Tryd.zeroCells45 45)) w.heap.size n s b from old_block _ _ _ _ (at_block _ _ _ rfl)) 129
  go_enter Tryd.func76, Tryd.ntmps76
  go_wp2_with (first
    | (rw [zero45, nC_sign]; refine wpList_loadV rfl 45 _ rfl ⟨w.heap.size, 0, none⟩ rfl _ (load_num HA.out) ?_)
    | refine wpList_storeV rfl 45 _ _ rfl ⟨w.heap.size + 1, 0, none⟩ rfl (.agg (nC n s false)) rfl _ (store_num HR.out) ?_)
  exact bodyPost_ret (ret_num rfl rfl HR.out.put) rfl ⟨rfl, below_row HB.out (by omega)⟩

set_option maxRecDepth 100000 in
set_option maxHeartbeats 8000000 in
theorem changed76_any (a : ByteArray) (w : World) (h : Env w) (ha : a.size ≤ 1000) :
    Calls Tryd.prog 75 #[.string a, .func (Fn.func 76) #[] #[]] w fun e w' => e = .returned (.tuple #[.string (if okA a = true then toldT false (parseN a) (parseS a) else ⟨#[]⟩), .int .i64 (if okA a = true then toldE (parseN a) (parseS a) else 2)]) ∧ Below w.heap.size w w' := by
  have PA := Lib.hid (parse_any a w h ha)
  have TO := Lib.hid fun (hn : parseN a < 10 ^ 128) wx => told_any (parseN a) (parseS a) false wx hn
  have hN : parseN a < 10 ^ 128 := by
    by_cases ho : okA a = true
    · exact lt128 (parse_ok ho).1
    · unfold parseN
      rw [if_neg (show ¬ okT a.data.toList = true from ho)]
      exact pow_pos _
  have TM := Lib.hid (TO.out hN)
  clear h ha hN TO
  rw [show okT a.data.toList = okA a from rfl] at PA
  generalize okA a = o1 at PA ⊢
  generalize parseN a = n1 at PA TM ⊢
  generalize parseS a = s1 at PA TM ⊢
  generalize parseB a = b1 at PA
  generalize toldT false n1 s1 = T at TM ⊢
  generalize toldE n1 s1 = E at TM ⊢
  have AB := Lib.hid fun wx => abs1_any n1 s1 b1 wx
  go_enter Tryd.func75, Tryd.ntmps75
  cases o1 with
  | false =>
    go_wp2_with (first | (go_at_call 38; refine PA.out.mono ?_; rintro e w1 ⟨rfl, hb1⟩; have H1 := Lib.hid (NwI.new hb1); clear hb1 PA) | (rw [zero45]; refine wpList_storeV rfl 45 _ _ rfl ⟨w1.heap.size, 0, none⟩ rfl (.agg (nC n1 s1 b1)) rfl _ (store_num H1.out.a) ?_; have H2 := Lib.hid (H1.out.put (n' := n1) (s' := s1) (b' := b1)); generalize (w1.alloc (.cells (nC 0 0 false) 45)).setRow w1.heap.size (nC n1 s1 b1) = W2 at H2 ⊢))
    go_ret2
    exact ⟨rfl, H2.out.bl⟩
  | true =>
    go_wp2_with (first | refine wpList_loadV rfl 45 _ rfl ⟨w1.heap.size, 0, none⟩ rfl _ (load_num H2.out.a) ?_ | (go_at_call 76; refine (AB.out _).mono ?_; rintro e w3 ⟨rfl, hb3⟩; have H3 := Lib.hid (H2.out.bl.trans (hb3.mono H2.out.bl.size)); clear hb3) | (go_at_call 52; refine (TM.out _).mono ?_; rintro e w4 ⟨rfl, hb4⟩; have H4 := Lib.hid (H3.out.trans (hb4.mono H3.out.size)); clear hb4) | (go_at_call 38; refine PA.out.mono ?_; rintro e w1 ⟨rfl, hb1⟩; have H1 := Lib.hid (NwI.new hb1); clear hb1 PA) | (rw [zero45]; refine wpList_storeV rfl 45 _ _ rfl ⟨w1.heap.size, 0, none⟩ rfl (.agg (nC n1 s1 b1)) rfl _ (store_num H1.out.a) ?_; have H2 := Lib.hid (H1.out.put (n' := n1) (s' := s1) (b' := b1)); generalize (w1.alloc (.cells (nC 0 0 false) 45)).setRow w1.heap.size (nC n1 s1 b1) = W2 at H2 ⊢))
    go_ret2
    exact ⟨rfl, H4.out⟩

set_option maxRecDepth 100000 in
theorem abs_any (a : ByteArray) (w : World) (h : Env w) (ha : a.size ≤ 1000) :
    Calls Tryd.prog 37 #[.string a] w fun e w' => e = .returned (.tuple #[.string (if okA a = true then toldT false (parseN a) (parseS a) else ⟨#[]⟩), .int .i64 (if okA a = true then toldE (parseN a) (parseS a) else 2)]) ∧ Below w.heap.size w w' := by
  have CH := Lib.hid (changed76_any a w h ha)
  generalize (if okA a = true then toldT false (parseN a) (parseS a) else (⟨#[]⟩ : ByteArray)) = T at CH ⊢
  generalize (if okA a = true then toldE (parseN a) (parseS a) else 2) = E at CH ⊢
  clear h ha
  go_enter Tryd.func37, Tryd.ntmps37
  go_wp2_with (go_at_call 75; refine CH.out.mono ?_; rintro e w2 ⟨rfl, hb2⟩; have H2 := Lib.hid hb2; clear hb2)
  go_ret2
  exact ⟨rfl, H2.out⟩

/-- Div, Rem and Abs at the texts of decimals. -/
theorem abs_txt {v : Int} {s : Nat} (h1 : DecT v s) (w : World) (h : Env w) :
    Calls Tryd.prog 37 #[.string (txtZ v s)] w fun e w' => e = .returned (.tuple #[.string (txtZ v.natAbs s), .int .i64 0]) ∧ Below w.heap.size w w' := by
  refine (abs_any _ w h h1.size).mono fun e w' ⟨he, hb⟩ => ⟨?_, hb⟩
  obtain ⟨p1, p2, p3, p4⟩ := parse_ok h1.ok
  have e1 : parseN (txtZ v s) = v.natAbs := by
    have := congrArg Int.natAbs p4
    rwa [sg_abs, h1.vT] at this
  rw [he, h1.ok, if_pos rfl, if_pos rfl, e1, p2, h1.sT]
  unfold toldT toldE
  rw [fits_of h1.v h1.s, if_pos rfl, if_pos rfl]
  unfold txtZ
  rw [decide_eq_false (show ¬ ((v.natAbs : Nat) : Int) < 0 by omega), Int.natAbs_natCast]
def divV (v u : Int) (s t : Nat) : Int := (v * 10 ^ (t - s)).tdiv (u * 10 ^ (s - t))
def modV (v u : Int) (s t : Nat) : Int := (v * 10 ^ (max s t - s)).tmod (u * 10 ^ (max s t - t))
theorem toldZ_fit {v : Int} {s : Nat} (h : v.natAbs < 10 ^ 31) (hs : s ≤ 31) : toldZ v s = txtZ v s := by
  unfold toldZ toldT
  rw [fits_of h hs, if_pos rfl]
  rfl
theorem toldE_fit {n s : Nat} (h : n < 10 ^ 31) (hs : s ≤ 31) : toldE n s = 0 := by
  unfold toldE
  rw [fits_of h hs, if_pos rfl]
theorem div_txt {v u : Int} {s t : Nat} (h1 : DecT v s) (h2 : DecT u t) (hu : u ≠ 0) (hV : (divV v u s t).natAbs < 10 ^ 31) (w : World) (h : Env w) :
    Calls Tryd.prog 18 #[.string (txtZ v s), .string (txtZ u t), .int .i64 0] w fun e w' => e = .returned (.tuple #[.string (txtZ (divV v u s t) 0), .int .i64 0]) ∧ Below w.heap.size w w' := by
  refine (div_any _ _ 0 w h h1.size h2.size).mono fun e w' ⟨he, hb⟩ => ⟨?_, hb⟩
  have hs : isScl 0 = true := rfl
  have eq : quoV (txtZ v s) (txtZ u t) 0 = divV v u s t := by
    unfold quoV divV
    rw [h1.vT, h2.vT, h1.sT, h2.sT, show ((0 : Int) + (t : Int) - (s : Int)).toNat = t - s by omega, show ((s : Int) - (t : Int) - 0).toNat = s - t by omega]
  rw [he, h1.ok, h2.ok, hs, eq, h2.vT, decide_eq_false hu, show (0 : Int).toNat = 0 from rfl, toldZ_fit hV (by omega), toldE_fit hV (by omega)]
  rfl
theorem rem_txt {v u : Int} {s t : Nat} (h1 : DecT v s) (h2 : DecT u t) (hu : u ≠ 0) (hV : (modV v u s t).natAbs < 10 ^ 31) (w : World) (h : Env w) :
    Calls Tryd.prog 20 #[.string (txtZ v s), .string (txtZ u t)] w fun e w' => e = .returned (.tuple #[.string (txtZ (modV v u s t) (max s t)), .int .i64 0]) ∧ Below w.heap.size w w' := by
  have hz : max s t ≤ 31 := by have := h1.s; have := h2.s; omega
  refine (rem_any _ _ w h h1.size h2.size).mono fun e w' ⟨he, hb⟩ => ⟨?_, hb⟩
  have eq : remV (txtZ v s) (txtZ u t) = modV v u s t := by
    unfold remV modV zT
    rw [h1.vT, h2.vT, h1.sT, h2.sT]
  have ez : zT (txtZ v s) (txtZ u t) = max s t := by unfold zT; rw [h1.sT, h2.sT]
  rw [he, h1.ok, h2.ok, eq, ez, h2.vT, decide_eq_false hu, toldZ_fit hV hz, toldE_fit hV hz]
  rfl
theorem div_none {v : Int} {s t : Nat} (h1 : DecT v s) (h2 : DecT 0 t) (w : World) (h : Env w) :
    Calls Tryd.prog 18 #[.string (txtZ v s), .string (txtZ 0 t), .int .i64 0] w fun e w' => e = .returned (.tuple #[.string ⟨#[]⟩, .int .i64 7]) ∧ Below w.heap.size w w' := by
  refine (div_any _ _ 0 w h h1.size h2.size).mono fun e w' ⟨he, hb⟩ => ⟨?_, hb⟩
  rw [he, h1.ok, h2.ok, h2.vT]
  rfl
theorem rem_none {v : Int} {s t : Nat} (h1 : DecT v s) (h2 : DecT 0 t) (w : World) (h : Env w) :
    Calls Tryd.prog 20 #[.string (txtZ v s), .string (txtZ 0 t)] w fun e w' => e = .returned (.tuple #[.string ⟨#[]⟩, .int .i64 7]) ∧ Below w.heap.size w w' := by
  refine (rem_any _ _ w h h1.size h2.size).mono fun e w' ⟨he, hb⟩ => ⟨?_, hb⟩
  rw [he, h1.ok, h2.ok, h2.vT]
  rfl

end Go.Proofs.YticbjhogdfpdkaaDoor
