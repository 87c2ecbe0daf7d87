/- isForm, fits, cutTo. -/
import Derived.Test.YticbjhogdfpdkaaDoorZi
namespace Go.Proofs.YticbjhogdfpdkaaDoor
set_option maxRecDepth 8000
open Go.RowKit Go.Shelf

def isForm (d s : Int) : Bool := decide (1 ≤ d) && decide (d ≤ 31) && decide (0 ≤ s) && decide (s ≤ d)
set_option maxRecDepth 100000 in
set_option maxHeartbeats 2000000 in
theorem isForm_any (d s : Int) (w : World) : Calls Tryd.prog 65 #[.int .i64 d, .int .i64 s] w fun e w' => e = .returned (.bool (isForm d s)) ∧ w = w' := by
  have hr : isForm d s = (decide (1 ≤ d) && decide (d ≤ 31) && decide (0 ≤ s) && decide (s ≤ d)) := rfl
  obtain ⟨r, hR⟩ : ∃ r, isForm d s = r := ⟨_, rfl⟩
  rw [hR] at hr ⊢
  by_cases h1 : 1 ≤ d
  · by_cases h2 : d ≤ 31
    · by_cases h3 : 0 ≤ s
      · by_cases h4 : s ≤ d
        · rw [decide_eq_true h1, decide_eq_true h2, decide_eq_true h3, decide_eq_true h4] at hr
          subst hr
          clear hR
          go_enter Tryd.func65, Tryd.ntmps65
          go_wp2_with fail
          go_ret
          exact ⟨rfl, rfl⟩
        · rw [decide_eq_true h1, decide_eq_true h2, decide_eq_true h3, decide_eq_false h4] at hr
          subst hr
          clear hR
          go_enter Tryd.func65, Tryd.ntmps65
          go_wp2_with fail
          go_ret
          exact ⟨rfl, rfl⟩
      · rw [decide_eq_true h1, decide_eq_true h2, decide_eq_false h3] at hr
        subst hr
        clear hR
        go_enter Tryd.func65, Tryd.ntmps65
        go_wp2_with fail
        go_ret
        exact ⟨rfl, rfl⟩
    · rw [decide_eq_true h1, decide_eq_false h2] at hr
      subst hr
      clear hR
      go_enter Tryd.func65, Tryd.ntmps65
      go_wp2_with fail
      go_ret
      exact ⟨rfl, rfl⟩
  · rw [decide_eq_false h1] at hr
    subst hr
    clear hR
    go_enter Tryd.func65, Tryd.ntmps65
    go_wp2_with fail
    go_ret
    exact ⟨rfl, rfl⟩

def fitsN (n : Nat) (s d t : Int) : Bool := decide (s = t) && decide ((digs n : Int) ≤ d)
set_option maxRecDepth 100000 in
set_option maxHeartbeats 2000000 in
theorem fits_any (n : Nat) (s d t : Int) (b : Bool) (w : World) : Calls Tryd.prog 66 #[.agg (nC n s b), .int .i64 d, .int .i64 t] w fun e w' => e = .returned (.bool (fitsN n s d t)) ∧ Below w.heap.size w w' := by
  have HA := Lib.hid (show NumAt (w.alloc (.cells (nC n s b) 45)) w.heap.size n s b from at_block w (.cells (nC n s b) 45) _ rfl)
  have HB := Lib.hid ((Below.refl w.heap.size w).alloc (Nat.le_refl _) (.cells (nC n s b) 45))
  have HL := Lib.hid (length_any w.heap.size n _ HA.out.dig)
  have c1 := HA.out.scale
  have hr : fitsN n s d t = (decide (s = t) && decide ((digs n : Int) ≤ d)) := rfl
  obtain ⟨r, hR⟩ : ∃ r, fitsN n s d t = r := ⟨_, rfl⟩
  rw [hR] at hr ⊢
  clear hR
  generalize digs n = D at HL hr
  by_cases h1 : s = t
  · subst h1
    by_cases h2 : (D : Int) ≤ d
    · rw [decide_eq_true h2] at hr
      subst hr
      go_enter Tryd.func66, Tryd.ntmps66
      go_wp2_with (go_at_call 92; refine HL.out.mono ?_; rintro e wx ⟨rfl, rfl⟩)
      go_ret
      exact ⟨ret_bool (by simp), HB.out⟩
    · rw [decide_eq_false h2] at hr
      subst hr
      go_enter Tryd.func66, Tryd.ntmps66
      go_wp2_with (go_at_call 92; refine HL.out.mono ?_; rintro e wx ⟨rfl, rfl⟩)
      go_ret
      exact ⟨ret_bool (by simp; omega), HB.out⟩
  · have h2 : (s == t) = false := beq_false_of_ne h1
    rw [decide_eq_false h1] at hr
    subst hr
    go_enter Tryd.func66, Tryd.ntmps66
    go_wp2_with fail
    go_ret
    exact ⟨ret_bool (by simp), HB.out⟩

theorem ret_nume {fn : Func} {p q : Tmp} {W : World} {R a : Nat} {s y : Int} {x : Bool} {tmps : Array Value} (h : fn.results = #[.cell p 45, .tmp q]) (hp : tmps.getD p undef = .pointer (some ⟨R, 0, none⟩)) (hq : tmps.getD q undef = .int .i64 y) (ha : NumAt W R a s x) :
    (results fn tmps).run Tryd.prog W = .ok (.tuple #[.agg (nC a s x), .int .i64 y]) W := by
  have hp' : tmps[p]?.getD undef = .pointer (some ⟨R, 0, none⟩) := by simpa using hp
  have hq' : tmps[q]?.getD undef = .int .i64 y := by simpa using hq
  simp [results, h, hp', hq', asAddr, load_num ha, Result.andThen]
theorem NwI.env {w : World} {p n : Nat} {s : Int} {b : Bool} {W : World} (h : NwI w p n s b W) (he : Env w) : Env W := he.below h.bl

/-- What cutTo answers. -/
def cutE (a : ByteArray) (d t : Int) : Int := if okA a = true then (if isForm d t = true then (if fitsN (moved (parseN a) (t - parseS a)) t d t = true then 0 else 4) else 7) else 2
def cutOk (a : ByteArray) (d t : Int) : Bool := okA a && isForm d t && fitsN (moved (parseN a) (t - parseS a)) t d t
def cutN (a : ByteArray) (d t : Int) : Nat := if cutOk a d t = true then moved (parseN a) (t - parseS a) else 0
def cutS (a : ByteArray) (d t : Int) : Int := if cutOk a d t = true then t else 0
def cutB (a : ByteArray) (d t : Int) : Bool := cutOk a d t && parseB a

set_option maxRecDepth 100000 in
set_option maxHeartbeats 8000000 in
theorem cutTo_any (a : ByteArray) (d t : Int) (w : World) (h : Env w) (ha : a.size ≤ 1000) :
    Calls Tryd.prog 69 #[.string a, .int .i64 d, .int .i64 t] w fun e w' => e = .returned (.tuple #[.agg (nC (cutN a d t) (cutS a d t) (cutB a d t)), .int .i64 (cutE a d t)]) ∧ Below w.heap.size w w' := by
  have R0 := Lib.hid (NwI.new (Below.refl w.heap.size w))
  have PA := Lib.hid fun wx (he : Env wx) => parse_any a wx he ha
  have IF := Lib.hid fun wx => isForm_any d t wx
  have FI := Lib.hid fun wx => fits_any (moved (parseN a) (t - parseS a)) t d t (parseB a) wx
  have HE := Lib.hid h
  have TO := Lib.hid fun (ho : okA a = true) (hf : isForm d t = true) wx => to_any (parseN a) (parseS a) t (parseB a) wx (lt128 (parse_ok ho).1) (by
      have := parse_ok ho
      simp only [isForm, Bool.and_eq_true, decide_eq_true_eq] at hf
      omega) (by
      have := parse_ok ho
      simp only [isForm, Bool.and_eq_true, decide_eq_true_eq] at hf
      omega)
  have E1 : cutE a d t = if okA a = true then (if isForm d t = true then (if fitsN (moved (parseN a) (t - parseS a)) t d t = true then 0 else 4) else 7) else 2 := rfl
  have E2 : cutN a d t = if cutOk a d t = true then moved (parseN a) (t - parseS a) else 0 := rfl
  have E3 : cutS a d t = if cutOk a d t = true then t else 0 := rfl
  have E4 : cutB a d t = (cutOk a d t && parseB a) := rfl
  have E5 : cutOk a d t = (okA a && isForm d t && fitsN (moved (parseN a) (t - parseS a)) t d t) := rfl
  rw [E5] at E2 E3 E4
  clear h ha E5
  rw [show okT a.data.toList = okA a from rfl] at PA
  generalize cutN a d t = xN at E2 ⊢
  generalize cutS a d t = xS at E3 ⊢
  generalize cutB a d t = xB at E4 ⊢
  generalize cutE a d t = xE at E1 ⊢
  generalize okA a = o at PA TO E1 E2 E3 E4
  generalize fitsN (moved (parseN a) (t - parseS a)) t d t = f at FI E1 E2 E3 E4
  generalize moved (parseN a) (t - parseS a) = M at FI TO E2
  generalize isForm d t = g at IF TO E1 E2 E3 E4
  generalize parseN a = n at PA TO
  generalize parseS a = s at PA TO
  generalize parseB a = b at PA TO FI E4
  cases o with
  | false =>
    rw [E1, E2, E3, E4]
    clear E1 E2 E3 E4
    go_enter Tryd.func69, Tryd.ntmps69
    go_wp2_with (first | (go_at_call 38; rw [zero45]; refine (PA.out _ (R0.out.env HE.out)).mono ?_; rintro e w1 ⟨rfl, hb1⟩; have R1 := Lib.hid (R0.out.later hb1); have R2 := Lib.hid R1.out.more; have A2 := Lib.hid (NwI.new R1.out.bl); clear hb1) | (rw [zero45]; refine wpList_storeV rfl 45 _ _ rfl ⟨w1.heap.size, 0, none⟩ rfl (.agg (nC n s b)) rfl _ (store_num A2.out.a) ?_; have A4 := Lib.hid (A2.out.put (n' := n) (s' := s) (b' := b)); have R4 := Lib.hid (R2.out.row (q := w1.heap.size) (cs := nC n s b) (Nat.ne_of_lt (blk_lt R1.out.a)) A2.out.lo); generalize (w1.alloc (.cells (nC 0 0 false) 45)).setRow w1.heap.size (nC n s b) = W4 at A4 R4 ⊢) | (rw [zero45]; refine wpList_storeV rfl 45 _ _ rfl ⟨w.heap.size, 0, none⟩ rfl (.agg (nC 0 0 false)) rfl _ (store_num R4.out.a) ?_) | (go_at_call 65; refine (IF.out _).mono ?_; rintro e wi ⟨rfl, rfl⟩))
    exact bodyPost_ret (ret_nume rfl rfl rfl R4.out.a.put) rfl ⟨rfl, below_row R4.out.bl (by omega)⟩
  | true =>
    cases g with
    | false =>
      rw [E1, E2, E3, E4]
      clear E1 E2 E3 E4
      go_enter Tryd.func69, Tryd.ntmps69
      go_wp2_with (first | (go_at_call 38; rw [zero45]; refine (PA.out _ (R0.out.env HE.out)).mono ?_; rintro e w1 ⟨rfl, hb1⟩; have R1 := Lib.hid (R0.out.later hb1); have R2 := Lib.hid R1.out.more; have A2 := Lib.hid (NwI.new R1.out.bl); clear hb1) | (rw [zero45]; refine wpList_storeV rfl 45 _ _ rfl ⟨w1.heap.size, 0, none⟩ rfl (.agg (nC n s b)) rfl _ (store_num A2.out.a) ?_; have A4 := Lib.hid (A2.out.put (n' := n) (s' := s) (b' := b)); have R4 := Lib.hid (R2.out.row (q := w1.heap.size) (cs := nC n s b) (Nat.ne_of_lt (blk_lt R1.out.a)) A2.out.lo); generalize (w1.alloc (.cells (nC 0 0 false) 45)).setRow w1.heap.size (nC n s b) = W4 at A4 R4 ⊢) | (rw [zero45]; refine wpList_storeV rfl 45 _ _ rfl ⟨w.heap.size, 0, none⟩ rfl (.agg (nC 0 0 false)) rfl _ (store_num R4.out.a) ?_) | (go_at_call 65; refine (IF.out _).mono ?_; rintro e wi ⟨rfl, rfl⟩))
      exact bodyPost_ret (ret_nume rfl rfl rfl R4.out.a.put) rfl ⟨rfl, below_row R4.out.bl (by omega)⟩
    | true =>
      have TM := Lib.hid (TO.out rfl rfl)
      clear TO
      cases f with
      | false =>
        rw [E1, E2, E3, E4]
        clear E1 E2 E3 E4
        go_enter Tryd.func69, Tryd.ntmps69
        go_wp2_with (first | (rw [zero45]; refine wpList_storeV rfl 45 _ _ rfl ⟨w.heap.size, 0, none⟩ rfl (.agg (nC 0 0 false)) rfl _ (store_num R8.out.a) ?_) | refine wpList_loadV rfl 45 _ rfl ⟨w1.heap.size, 0, none⟩ rfl _ (load_num A8.out.a) ?_ | refine wpList_loadV rfl 45 _ rfl ⟨w1.heap.size, 0, none⟩ rfl _ (load_num A6.out.a) ?_ | refine wpList_loadV rfl 45 _ rfl ⟨w1.heap.size, 0, none⟩ rfl _ (load_num A4.out.a) ?_ | (go_at_call 66; refine (FI.out _).mono ?_; rintro e w7 ⟨rfl, hb7⟩; have R8 := Lib.hid (R6.out.later hb7); have A8 := Lib.hid (A6.out.later hb7); clear hb7) | (refine wpList_storeV rfl 45 _ _ rfl ⟨w1.heap.size, 0, none⟩ rfl (.agg (nC M t b)) rfl _ (store_num A5.out.a) ?_; have A6 := Lib.hid (A5.out.put (n' := M) (s' := t) (b' := b)); have R6 := Lib.hid (R5.out.row (q := w1.heap.size) (cs := nC M t b) (Nat.ne_of_lt (blk_lt R1.out.a)) A2.out.lo); generalize w5.setRow w1.heap.size (nC M t b) = W6 at A6 R6 ⊢) | (go_at_call 61; refine (TM.out _).mono ?_; rintro e w5 ⟨rfl, hb5⟩; have R5 := Lib.hid (R4.out.later hb5); have A5 := Lib.hid (A4.out.later hb5); clear hb5) | (go_at_call 38; rw [zero45]; refine (PA.out _ (R0.out.env HE.out)).mono ?_; rintro e w1 ⟨rfl, hb1⟩; have R1 := Lib.hid (R0.out.later hb1); have R2 := Lib.hid R1.out.more; have A2 := Lib.hid (NwI.new R1.out.bl); clear hb1) | (rw [zero45]; refine wpList_storeV rfl 45 _ _ rfl ⟨w1.heap.size, 0, none⟩ rfl (.agg (nC n s b)) rfl _ (store_num A2.out.a) ?_; have A4 := Lib.hid (A2.out.put (n' := n) (s' := s) (b' := b)); have R4 := Lib.hid (R2.out.row (q := w1.heap.size) (cs := nC n s b) (Nat.ne_of_lt (blk_lt R1.out.a)) A2.out.lo); generalize (w1.alloc (.cells (nC 0 0 false) 45)).setRow w1.heap.size (nC n s b) = W4 at A4 R4 ⊢) | (rw [zero45]; refine wpList_storeV rfl 45 _ _ rfl ⟨w.heap.size, 0, none⟩ rfl (.agg (nC 0 0 false)) rfl _ (store_num R4.out.a) ?_) | (go_at_call 65; refine (IF.out _).mono ?_; rintro e wi ⟨rfl, rfl⟩))
        exact bodyPost_ret (ret_nume rfl rfl rfl R8.out.a.put) rfl ⟨rfl, below_row R8.out.bl (by omega)⟩
      | true =>
        rw [Bool.true_and, Bool.true_and, Bool.true_and] at E4
        rw [if_pos (by rfl)] at E2 E3
        rw [E1, E2, E3, E4]
        clear E1 E2 E3 E4
        go_enter Tryd.func69, Tryd.ntmps69
        go_wp2_with (first | refine wpList_storeV rfl 45 _ _ rfl ⟨w.heap.size, 0, none⟩ rfl (.agg (nC M t b)) rfl _ (store_num R8.out.a) ?_ | refine wpList_loadV rfl 45 _ rfl ⟨w1.heap.size, 0, none⟩ rfl _ (load_num A8.out.a) ?_ | refine wpList_loadV rfl 45 _ rfl ⟨w1.heap.size, 0, none⟩ rfl _ (load_num A6.out.a) ?_ | refine wpList_loadV rfl 45 _ rfl ⟨w1.heap.size, 0, none⟩ rfl _ (load_num A4.out.a) ?_ | (go_at_call 66; refine (FI.out _).mono ?_; rintro e w7 ⟨rfl, hb7⟩; have R8 := Lib.hid (R6.out.later hb7); have A8 := Lib.hid (A6.out.later hb7); clear hb7) | (refine wpList_storeV rfl 45 _ _ rfl ⟨w1.heap.size, 0, none⟩ rfl (.agg (nC M t b)) rfl _ (store_num A5.out.a) ?_; have A6 := Lib.hid (A5.out.put (n' := M) (s' := t) (b' := b)); have R6 := Lib.hid (R5.out.row (q := w1.heap.size) (cs := nC M t b) (Nat.ne_of_lt (blk_lt R1.out.a)) A2.out.lo); generalize w5.setRow w1.heap.size (nC M t b) = W6 at A6 R6 ⊢) | (go_at_call 61; refine (TM.out _).mono ?_; rintro e w5 ⟨rfl, hb5⟩; have R5 := Lib.hid (R4.out.later hb5); have A5 := Lib.hid (A4.out.later hb5); clear hb5) | (go_at_call 38; rw [zero45]; refine (PA.out _ (R0.out.env HE.out)).mono ?_; rintro e w1 ⟨rfl, hb1⟩; have R1 := Lib.hid (R0.out.later hb1); have R2 := Lib.hid R1.out.more; have A2 := Lib.hid (NwI.new R1.out.bl); clear hb1) | (rw [zero45]; refine wpList_storeV rfl 45 _ _ rfl ⟨w1.heap.size, 0, none⟩ rfl (.agg (nC n s b)) rfl _ (store_num A2.out.a) ?_; have A4 := Lib.hid (A2.out.put (n' := n) (s' := s) (b' := b)); have R4 := Lib.hid (R2.out.row (q := w1.heap.size) (cs := nC n s b) (Nat.ne_of_lt (blk_lt R1.out.a)) A2.out.lo); generalize (w1.alloc (.cells (nC 0 0 false) 45)).setRow w1.heap.size (nC n s b) = W4 at A4 R4 ⊢) | (rw [zero45]; refine wpList_storeV rfl 45 _ _ rfl ⟨w.heap.size, 0, none⟩ rfl (.agg (nC 0 0 false)) rfl _ (store_num R4.out.a) ?_) | (go_at_call 65; refine (IF.out _).mono ?_; rintro e wi ⟨rfl, rfl⟩))
        exact bodyPost_ret (ret_nume rfl rfl rfl R8.out.a.put) rfl ⟨rfl, below_row R8.out.bl (by omega)⟩

end Go.Proofs.YticbjhogdfpdkaaDoor
