/- The contract of frag.Weave. -/
import Derived.Test.YteblbpdpfegooaaK
import Derived.Test.YteblbpdpfegooaaH
namespace Go.Proofs.Yteblbpdpfegooaa
open Go.RowKit Go.Sort Go.Shelf

/-- The lists of slices. -/
def lls (ds : List SlD) : List (List Pc) := ds.map SlD.l

def goodL (S : List (List Pc)) : Bool := decide (total S ≤ 2000) && S.all allV

theorem total_append : ∀ S T, total (S ++ T) = total S + total T
  | [], T => by simp [total]
  | x :: r, T => by rw [List.cons_append, total, total, total_append r T]; omega

theorem total_take (S : List (List Pc)) (k : Nat) : total (S.take k) ≤ total S := by
  have := total_append (S.take k) (S.drop k)
  rw [List.take_append_drop] at this
  omega

theorem total_take_succ (S : List (List Pc)) (k : Nat) (h : k < S.length) : total (S.take (k + 1)) = total (S.take k) + S[k].length := by
  rw [List.take_succ_eq_append_getElem h, total_append]
  simp [total]

theorem good_big {S : List (List Pc)} {k : Nat} (h : 2000 < total (S.take k)) : goodL S = false := by
  have := total_take S k
  unfold goodL
  rw [decide_eq_false (by omega)]
  rfl

theorem good_bad {S : List (List Pc)} {k : Nat} (hk : k < S.length) (h : allV S[k] = false) : goodL S = false := by
  unfold goodL
  have : S.all allV = false := by
    cases ha : S.all allV with
    | false => rfl
    | true => rw [List.all_eq_true.1 ha _ (List.getElem_mem hk)] at h; cases h
  rw [this, Bool.and_false]

def glTo (S : List (List Pc)) (k : Nat) : Prop := total (S.take k) ≤ 2000 ∧ ∀ i, i < k → ∀ h : i < S.length, allV S[i] = true

theorem gl_all {S : List (List Pc)} (h : glTo S S.length) : goodL S = true := by
  have h1 := h.1
  rw [List.take_length] at h1
  unfold goodL
  rw [decide_eq_true h1, Bool.true_and]
  exact List.all_eq_true.2 fun x hx => by
    obtain ⟨i, hi, rfl⟩ := List.getElem_of_mem hx
    exact h.2 i hi hi

/-- What Weave returns, and its error. -/
def wvE (S : List (List Pc)) (ts : List Int) : Int := if goodL S = true then (if 1 ≤ S.length ∧ S.length ≤ 100 ∧ allN ts = true then 0 else 7) else 1

def wvL (S : List (List Pc)) (ts : List Int) : List Pc := if wvE S ts = 0 then wv (ts.map Int.toNat) S else []

theorem wvE_ok {S : List (List Pc)} {ts : List Int} (h : goodL S = true) (h1 : 1 ≤ S.length) (h2 : S.length ≤ 100) (h3 : allN ts = true) : wvE S ts = 0 := by unfold wvE; rw [if_pos h, if_pos ⟨h1, h2, h3⟩]

theorem wvL_len (S : List (List Pc)) (ts : List Int) : (wvL S ts).length ≤ total S := by
  unfold wvL
  split
  · rw [wv_len _ _ _ rfl]; exact Nat.le_refl _
  · simp

theorem okL_good {l : List Pc} (h : l.length ≤ 2000) : okL l = allV l := by unfold okL; rw [decide_eq_true h, Bool.true_and]

theorem turnD (ds : List SlD) (m : Nat) (h : neD ds ≠ []) : ∃ d p r, (neD ds)[m % (neD ds).length]? = some d ∧ d.l = p :: r ∧ (ne (lls ds))[m % (ne (lls ds)).length]? = some (p :: r) := by
  have hm := neD_map ds
  have h1 : ne (lls ds) ≠ [] := by
    intro e
    unfold lls at e
    rw [← hm] at e
    exact h (List.map_eq_nil_iff.1 e)
  obtain ⟨p, r, hp⟩ := turn_some m h1
  have hl : (ne (lls ds)).length = (neD ds).length := by unfold lls; rw [← hm, List.length_map]
  have hp2 := hp
  rw [hl] at hp2
  unfold lls at hp2
  rw [← hm, List.getElem?_map] at hp2
  obtain ⟨d, hd, hdl⟩ := Option.map_eq_some_iff.1 hp2
  exact ⟨d, p, r, hd, hdl, hp⟩

theorem lls_set (ds : List SlD) (m : Nat) (ad : Option Addr) (r : List Pc) (c : Nat) : lls ((neD ds).set (m % (neD ds).length) ⟨ad, r, c⟩) = (ne (lls ds)).set (m % (ne (lls ds)).length) r := by
  have hm := neD_map ds
  have hl : (ne (lls ds)).length = (neD ds).length := by unfold lls; rw [← hm, List.length_map]
  rw [hl]
  unfold lls
  rw [List.map_set, hm]

theorem neD_lls {ds : List SlD} (h : neD ds = []) : ne (lls ds) = [] := by unfold lls; rw [← neD_map, h]; rfl

/-- How much is in a box of pieces. -/
def lenBox (W : World) (B : Nat) : Nat := match W.cell? ⟨B, 0, none⟩ with
  | some (.slice _ n _) => n
  | _ => 0

theorem WvI.len_out {w : World} {BL BO BR : Nat} {ds : List SlD} {cap : Nat} {pre : List Pc} {W : World} (h : WvI w BL BO BR ds cap pre W) : lenBox W BO = pre.length := by
  obtain ⟨sv, h1, h2⟩ := h.out
  obtain ⟨a, c, rfl⟩ := sl_len h2
  unfold lenBox
  rw [h1.cell]

/-- The state of the loops: all that is woven, in two parts. -/
structure WlI (w : World) (BL BO BR : Nat) (all : List Pc) (ts : List Nat) (ds : List SlD) (cap : Nat) (pre : List Pc) (W : World) : Prop where
  st : WvI w BL BO BR ds cap pre W
  few : ds.length ≤ 1000
  so : pre ++ wv ts (lls ds) = all

theorem WlI.step {w : World} {BL BO BR : Nat} {all : List Pc} {t : Nat} {ts : List Nat} {ds : List SlD} {cap : Nat} {pre : List Pc} {W W' : World} {p : Pc} {r : List Pc} {ad : Option Addr} {c : Nat} (h : WlI w BL BO BR all ts ds cap pre W) (ht : t = ts.headD 0)
    (hp : (ne (lls ds))[t % (ne (lls ds)).length]? = some (p :: r)) (hs : WvI w BL BO BR ((neD ds).set (t % (neD ds).length) ⟨ad, r, c⟩) cap (pre ++ [p]) W') : WlI w BL BO BR all ts.tail ((neD ds).set (t % (neD ds).length) ⟨ad, r, c⟩) cap (pre ++ [p]) W' := by
  subst ht
  refine ⟨hs, ?_, ?_⟩
  · rw [List.length_set]; exact Nat.le_trans (List.length_filter_le _ _) h.few
  · rw [lls_set, ← h.so, wv_step hp]
    simp

theorem WlI.stop {w : World} {BL BO BR : Nat} {all : List Pc} {ts : List Nat} {ds : List SlD} {cap : Nat} {pre : List Pc} {W W' : World} (h : WlI w BL BO BR all ts ds cap pre W) (hn : neD ds = []) (hs : WvI w BL BO BR [] cap pre W') (us : List Nat) : WlI w BL BO BR all us [] cap pre W' := by
  refine ⟨hs, Nat.zero_le _, ?_⟩
  rw [← h.so, wv_end (neD_lls hn), wv_end (show ne (lls []) = [] from rfl)]

theorem WlI.room {w : World} {BL BO BR : Nat} {all : List Pc} {ts : List Nat} {ds : List SlD} {cap : Nat} {pre : List Pc} {W : World} (h : WlI w BL BO BR all ts ds cap pre W) : pre.length ≤ all.length := by rw [← h.so]; simp

theorem WlI.more {w : World} {BL BO BR : Nat} {all : List Pc} {ts : List Nat} {ds : List SlD} {cap : Nat} {pre : List Pc} {W : World} {t : Nat} {p : Pc} {r : List Pc} (h : WlI w BL BO BR all ts ds cap pre W) (ht : t = ts.headD 0)
    (hp : (ne (lls ds))[t % (ne (lls ds)).length]? = some (p :: r)) : pre.length < all.length := by
  subst ht
  rw [← h.so, wv_step hp]
  simp

theorem WlI.same {w : World} {BL BO BR : Nat} {all : List Pc} {ts us : List Nat} {ds : List SlD} {cap : Nat} {pre : List Pc} {W : World} (h : WlI w BL BO BR all ts ds cap pre W) (e : ts = us) : WlI w BL BO BR all us ds cap pre W := e ▸ h

set_option maxRecDepth 100000 in
set_option maxHeartbeats 8000000 in
theorem weave_any (ao to : Option Addr) (cap tc : Nat) (ds : List SlD) (ts : List Int) (w : World) (h : LlAt w ao ds cap) (ht : IntRow w to ts) (hl : ds.length ≤ 200) (hll : ∀ d ∈ ds, d.l.length ≤ 1000) (hts : ts.length ≤ 1000000) (htb : ∀ t ∈ ts, t ≤ 9223372036854775807) :
    Calls Try.prog 27 #[.slice ao ds.length cap, .slice to ts.length tc] w (RowPost w (wvL (lls ds) ts) (wvE (lls ds) ts)) := by
  have HR := Lib.hid h
  have HTR := Lib.hid ht
  have HLL := Lib.hid hll
  have HTB := Lib.hid htb
  have hlen : (lls ds).length = ds.length := by simp [lls]
  have HLEN := Lib.hid hlen
  have HDL := Lib.hid hl
  have HTS := Lib.hid hts
  clear h ht hll htb hlen hl hts
  go_enter Try.func27, Try.ntmps27
  go_wp2_with fail
  go_loopw [6, 16] (fun c i wr => ∃ k : Nat, i = .int .i64 k ∧ k ≤ ds.length ∧ c = .int .i64 (total ((lls ds).take k) : Nat) ∧ glTo (lls ds) k ∧ Below w.heap.size w wr) (fun _ i _ => ds.length - (intOf i).toNat)
  case atStart => exact ⟨0, rfl, Nat.zero_le _, rfl, ⟨by simp [total], fun i h => absurd h (Nat.not_lt_zero i)⟩, Below.refl _ _⟩
  case round =>
    obtain ⟨k, rfl, hk, rfl, hgood, hbel⟩ := hrel
    have HB := Lib.hid hbel
    have HG := Lib.hid hgood
    obtain ⟨tt, htt⟩ : ∃ tt, total ((lls ds).take k) = tt := ⟨_, rfl⟩
    rw [htt]
    have HTT := Lib.hid htt
    have hk2 : (k : Int) ≤ 200 := by have := HDL.out; omega
    have hk0 : (0 : Int) ≤ (k : Int) := by omega
    have ht2 : (tt : Int) ≤ 2000 := by have := hgood.1; omega
    have ht0 : (0 : Int) ≤ (tt : Int) := by omega
    clear hbel hgood htt
    by_cases hlt : k < ds.length
    · have hL := (HR.out.below HB.out)
      rcases hL.row with h0 | ⟨b, off, rfl, hb, hp⟩
      · subst h0; exact absurd hlt (by simp)
      have c0 := hp k hlt
      have hdm : ds[k] ∈ ds := List.getElem_mem hlt
      have hdl := HLL.out _ hdm
      have hok := hL.ok _ hdm
      have HSK : Hid ((lls ds)[k]'(by rw [HLEN.out]; exact hlt) = ds[k].l) := Lib.hid (by simp [lls])
      have HTS2 := Lib.hid (total_take_succ (lls ds) k (by rw [HLEN.out]; exact hlt))
      obtain ⟨d, hd⟩ : ∃ d, ds[k] = d := ⟨_, rfl⟩
      rw [hd] at c0 hdl hok HSK
      obtain ⟨da, dl, dc⟩ := d
      unfold SlD.v at c0
      simp only at c0 hdl HSK
      have AV := Lib.hid (allValid_any da dc dl wr (hok.row (Below.refl _ _) (Nat.le_refl _)))
      have hk1 : (k : Int) < (ds.length : Int) := by omega
      have HDD := Lib.hid hdl
      have hd2 : (dl.length : Int) ≤ 1000 := by omega
      have HLT := Lib.hid hlt
      clear hL hp hdm hdl hok hd
      by_cases hbig : 2000 < tt + dl.length
      · have HF : Hid (goodL (lls ds) = false) := Lib.hid (good_big (k := k + 1) (by rw [HTS2.out, HTT.out, HSK.out]; exact hbig))
        have H1 : Hid (wvE (lls ds) ts = 1) := Lib.hid (by unfold wvE; rw [if_neg (by rw [HF.out]; decide)])
        have H2 : Hid (wvL (lls ds) ts = []) := Lib.hid (by unfold wvL; rw [H1.out]; rfl)
        have e1 : (2000 : Int) < (tt : Int) + (dl.length : Int) := by omega
        have e2 : decide ((2000 : Int) < (tt : Int) + (dl.length : Int)) = true := decide_eq_true e1
        clear hbig
        go_wp2_with fail
        go_ret2
        rw [H1.out, H2.out]
        exact RowPost.nil rfl rfl HB.out
      · have e1 : ¬ (2000 : Int) < (tt : Int) + (dl.length : Int) := by omega
        have e2 : decide ((2000 : Int) < (tt : Int) + (dl.length : Int)) = false := decide_eq_false e1
        have HBG := Lib.hid hbig
        rw [okL_good (by omega)] at AV
        cases hv : allV dl
        · have HF : Hid (goodL (lls ds) = false) := Lib.hid (good_bad (k := k) (by rw [HLEN.out]; exact hlt) (by rw [HSK.out]; exact hv))
          have H1 : Hid (wvE (lls ds) ts = 1) := Lib.hid (by unfold wvE; rw [if_neg (by rw [HF.out]; decide)])
          have H2 : Hid (wvL (lls ds) ts = []) := Lib.hid (by unfold wvL; rw [H1.out]; rfl)
          rw [hv] at AV
          clear hbig hv
          go_wp2_with (go_at_call 41; refine AV.out.mono ?_; rintro e w2 ⟨rfl, hb2⟩; have B2 := Lib.hid (HB.out.trans (hb2.mono HB.out.size)); clear hb2)
          go_ret2
          rw [H1.out, H2.out]
          exact RowPost.nil rfl rfl B2.out
        · have HV := Lib.hid hv
          rw [hv] at AV
          clear hbig hv
          go_wp2_with (go_at_call 41; refine AV.out.mono ?_; rintro e w2 ⟨rfl, hb2⟩; have B2 := Lib.hid (HB.out.trans (hb2.mono HB.out.size)); clear hb2)
          have hnew : total ((lls ds).take (k + 1)) = tt + dl.length := by rw [HTS2.out, HTT.out, HSK.out]
          refine ⟨⟨k + 1, by go_num, HLT.out, by rw [hnew]; go_num, ⟨by rw [hnew]; have := HBG.out; omega, fun i hi h => ?_⟩, B2.out⟩, by simp [intOf]; have := HLT.out; omega⟩
          by_cases e : i = k
          · subst e; rw [HSK.out]; exact HV.out
          · exact HG.out.2 i (by omega) h
    · obtain rfl : k = ds.length := by omega
      have hgl : goodL (lls ds) = true := gl_all (by rw [HLEN.out]; exact HG.out)
      have HGL := Lib.hid hgl
      have AN := Lib.hid fun wx (hx : Below w.heap.size w wx) => anyNeg_any to tc ts wx (HTR.out.below hx) (by have := HTS.out; omega)
      rw [show ts.all negOk = allN ts from rfl] at AN
      clear hgl hlt
      by_cases hs : 1 ≤ ds.length ∧ ds.length ≤ 100 ∧ allN ts = true
      case neg =>
        have H1 : Hid (wvE (lls ds) ts = 7) := Lib.hid (by unfold wvE; rw [if_pos HGL.out, if_neg (by rw [HLEN.out]; exact hs)])
        have H2 : Hid (wvL (lls ds) ts = []) := Lib.hid (by unfold wvL; rw [H1.out]; rfl)
        by_cases h1 : 1 ≤ ds.length
        case neg =>
          have e1 : decide ((ds.length : Int) < 1) = true := decide_eq_true (by omega)
          have e2 : (ds.length : Int) < 1 := by omega
          clear h1 hs
          go_wp2_with fail
          go_ret2
          rw [H1.out, H2.out]
          exact RowPost.nil rfl rfl HB.out
        have e1 : decide ((ds.length : Int) < 1) = false := decide_eq_false (by omega)
        have e1n : ¬ (ds.length : Int) < 1 := by omega
        by_cases h2 : ds.length ≤ 100
        case neg =>
          have e2 : decide ((100 : Int) < (ds.length : Int)) = true := decide_eq_true (by omega)
          have e2n : (100 : Int) < (ds.length : Int) := by omega
          clear h1 h2 hs
          go_wp2_with fail
          go_ret2
          rw [H1.out, H2.out]
          exact RowPost.nil rfl rfl HB.out
        have e2 : decide ((100 : Int) < (ds.length : Int)) = false := decide_eq_false (by omega)
        have e2n : ¬ (100 : Int) < (ds.length : Int) := by omega
        have h3 : allN ts = false := by
          cases ha : allN ts with
          | false => rfl
          | true => exact absurd ⟨h1, h2, ha⟩ hs
        rw [h3] at AN
        clear h1 h2 h3 hs
        go_wp2_with (go_at_call 42; refine (AN.out _ HB.out).mono ?_; rintro e w2 ⟨rfl, rfl⟩)
        go_ret2
        rw [H1.out, H2.out]
        exact RowPost.nil rfl rfl HB.out
      obtain ⟨h1, h2, h3⟩ := hs
      have e1 : decide ((ds.length : Int) < 1) = false := decide_eq_false (by omega)
      have e1n : ¬ (ds.length : Int) < 1 := by omega
      have e2 : decide ((100 : Int) < (ds.length : Int)) = false := decide_eq_false (by omega)
      have e2n : ¬ (100 : Int) < (ds.length : Int) := by omega
      have hne : ds ≠ [] := fun e => by rw [e] at h1; simp at h1
      obtain ⟨all, hall⟩ : ∃ all, wv (ts.map Int.toNat) (lls ds) = all := ⟨_, rfl⟩
      have H1 : Hid (wvE (lls ds) ts = 0) := Lib.hid (wvE_ok HGL.out (by rw [HLEN.out]; exact h1) (by rw [HLEN.out]; exact h2) h3)
      have H2 : Hid (wvL (lls ds) ts = all) := Lib.hid (by unfold wvL; rw [H1.out, if_pos rfl]; exact hall)
      have HALL := Lib.hid hall
      have HAL : Hid (all.length ≤ 2000) := Lib.hid (by
        rw [← hall, wv_len _ _ _ rfl]
        have := HG.out.1
        rw [← HLEN.out, List.take_length] at this
        exact this)
      have HN := Lib.hid h3
      have HRB := Lib.hid (HR.out.below HB.out)
      have HWOK := Lib.hid HR.out.ok
      rw [h3] at AN
      rcases HR.out.row with h0 | ⟨b, off, rfl, hb, hp⟩
      · exact absurd h0 hne
      have CL := Lib.hid (clone_any ⟨b, off, none⟩ ds cap wr HRB.out (by omega))
      clear h1 h2 h3 hne hall hb hp
      go_wp2_with (first | (go_at_call 42; refine (AN.out _ HB.out).mono ?_; rintro e w2 ⟨rfl, rfl⟩) | (go_at_call 44; refine CL.out.mono ?_; rintro e w3 ⟨g, cap3, rfl, hc3, hg3, hgl3, hh3, hb3⟩; have HC3 := Lib.hid hc3; have HG3 := Lib.hid hg3; have HGL3 := Lib.hid hgl3; have HH3 := Lib.hid hh3; have HB3 := Lib.hid hb3; clear hc3 hg3 hgl3 hh3 hb3))
      have hst : WlI w w3.heap.size (w3.heap.size + 1) g all (ts.map Int.toNat) ds cap3 [] ((w3.alloc (.cells #[.slice (some ⟨g, 0, none⟩) ds.length cap3] 52)).alloc (.cells #[.slice none 0 0] 23)) := by
        have hb := HB.out.trans (HB3.out.mono HB.out.size)
        have hb4 : Below w3.heap.size w3 ((w3.alloc (.cells #[.slice (some ⟨g, 0, none⟩) ds.length cap3] 52)).alloc (.cells #[.slice none 0 0] 23)) := ((Below.refl _ _).alloc (Nat.le_refl _) _).alloc (by simp) _
        have hbo := Boxed.new (w3.alloc (.cells #[.slice (some ⟨g, 0, none⟩) ds.length cap3] 52)) 23 (.slice none 0 0)
        rw [World.size_alloc] at hbo
        refine ⟨⟨hb.trans (hb4.mono hb.size), (Boxed.new w3 52 _).alloc _, HC3.out, holds_same HH3.out (hb4.block g HGL3.out), Nat.lt_of_lt_of_le HGL3.out hb4.size, HWOK.out, _, hbo, World.ownsRow_nil _ _ _ _⟩, by have := HDL.out; omega, by rw [← HALL.out]; rfl⟩
      obtain ⟨BL, hBL⟩ : ∃ BL, w3.heap.size = BL := ⟨_, rfl⟩
      obtain ⟨w4, hw4⟩ : ∃ w4, (w3.alloc (.cells #[.slice (some ⟨g, 0, none⟩) ds.length cap3] 52)).alloc (.cells #[.slice none 0 0] 23) = w4 := ⟨_, rfl⟩
      rw [hw4, hBL] at hst
      have hgl3 := HGL3.out
      have hg3 : w.heap.size ≤ g := Nat.le_trans HB.out.size HG3.out
      rw [hBL] at hgl3
      rw [show (w3.alloc (Obj.cells #[Value.slice (some ⟨g, 0, none⟩) ds.length cap3] 52)).alloc (Obj.cells #[Value.slice none 0 0] 23) = w4 from hw4, hBL]
      obtain ⟨BO, hBO⟩ : ∃ BO, BL + 1 = BO := ⟨_, rfl⟩
      rw [hBO] at hst ⊢
      have hlo : BL < BO := by omega
      obtain ⟨BR, hBR⟩ : ∃ BR, g = BR := ⟨_, rfl⟩
      subst hBR
      have HST := Lib.hid hst
      clear hst hBL hw4 hBO
      go_wp2_with fail
      go_loopw [49] (fun i wr => ∃ (j : Nat) (ds' : List SlD) (cap' : Nat) (pre : List Pc), i = .int .i64 j ∧ j ≤ ts.length ∧ WlI w BL BO g all ((ts.map Int.toNat).drop j) ds' cap' pre wr) (fun i _ => ts.length - (intOf i).toNat)
      case atStart => exact ⟨0, ds, cap3, [], rfl, Nat.zero_le _, HST.out⟩
      case round =>
        obtain ⟨j, ds', cap', pre, rfl, hj, hinv⟩ := hrel
        have HI := Lib.hid hinv
        by_cases hlt : j < ts.length
        · rcases HTR.out.below hinv.st.below with h0 | ⟨tb, toff, rfl, htb, htp⟩
          · subst h0; exact absurd hlt (by simp)
          have c0 := htp j hlt
          have hge : 0 ≤ ts[j] := by
            have := List.all_eq_true.1 HN.out _ (List.getElem_mem hlt)
            simpa [negOk] using this
          have hle := HTB.out _ (List.getElem_mem hlt)
          obtain ⟨n, hn⟩ : ∃ n : Nat, ts[j] = n := ⟨ts[j].toNat, by omega⟩
          rw [hn] at c0 hle
          have hhd : n = ((ts.map Int.toNat).drop j).headD 0 := by
            rw [List.drop_eq_getElem_cons (by simpa using hlt)]
            simp [hn]
          have htl : ((ts.map Int.toNat).drop j).tail = (ts.map Int.toNat).drop (j + 1) := by rw [List.tail_drop]
          have HTL := Lib.hid htl
          have k1 : (j : Int) < (ts.length : Int) := by omega
          have k2 : (0 : Int) ≤ (j : Int) := by omega
          have k3 : (j : Int) ≤ 1000000 := by have := HTS.out; omega
          have HLT := Lib.hid hlt
          by_cases hz : neD ds' = []
          · have TN := Lib.hid (turn_no w BL BO g n hg3 hgl3 hlo ds' cap' pre wr hinv.st hinv.few hz)
            have HZ := Lib.hid hz
            clear hinv hlt hge hle hn hhd htl htp htb hz
            go_wp2_with (go_at_call 45; refine TN.out.mono ?_; rintro e w9 ⟨rfl, hs9⟩; have HS9 := Lib.hid (HI.out.stop HZ.out hs9 []); clear hs9)
            clear c0 k1 k2 k3
            go_loopw [58] (fun _ wr => ∃ (ds' : List SlD) (cap' : Nat) (pre : List Pc), WlI w BL BO g all [] ds' cap' pre wr) (fun _ wr => 3000 - lenBox wr BO)
            case atStart => exact ⟨[], cap', pre, HS9.out⟩
            case round =>
              obtain ⟨ds', cap', pre, hinv⟩ := hrel
              have HI := Lib.hid hinv
              have HLN := Lib.hid hinv.st.len_out
              have HRM := Lib.hid hinv.room
              by_cases hn : neD ds' = []
              · have TN0 := turn_no w BL BO g 0 (by omega) (by omega) (by omega) ds' cap' pre wr hinv.st hinv.few hn
                rw [show (((0 : Nat) : Int)) = 0 from rfl] at TN0
                have TN := Lib.hid TN0
                have HNN := Lib.hid hn
                clear hinv hn TN0
                go_wp2_with (go_at_call 45; refine TN.out.mono ?_; rintro e w9 ⟨rfl, hs9⟩; have HS9 := Lib.hid hs9; obtain ⟨sv9, hq9, ho9⟩ := hs9.out; have cc9 := hq9.cell; have HO9 := Lib.hid ho9; clear hs9 hq9 ho9)
                go_ret2
                have hlast := HI.out.so
                rw [wv_end (neD_lls HNN.out), List.append_nil] at hlast
                rw [H1.out, H2.out]
                exact RowPost.own (by have := HO9.out; rw [hlast] at this; exact this) rfl HS9.out.below
              · obtain ⟨d, p, r, hd, hdl, hp⟩ := turnD ds' 0 hn
                have hmore := hinv.more (t := 0) rfl hp
                have TY0 := turn_yes w BL BO g 0 (by omega) (by omega) (by omega) (by omega) ds' cap' pre wr hinv.st hinv.few (by have := HAL.out; omega) d p r hdl hd
                rw [show (((0 : Nat) : Int)) = 0 from rfl] at TY0
                have TY := Lib.hid TY0
                have HPP := Lib.hid hp
                have HMO := Lib.hid hmore
                clear hinv hn hd hdl hp hmore TY0
                go_wp2_with (go_at_call 45; refine TY.out.mono ?_; rintro e w9 ⟨rfl, ad, c, hs9⟩; have HI9 := Lib.hid (HI.out.step (t := 0) rfl HPP.out hs9); clear hs9)
                refine ⟨⟨_, _, _, HI9.out⟩, ?_⟩
                rw [HLN.out, HI9.out.st.len_out, List.length_append]
                have := HMO.out
                have := HAL.out
                simp
                omega
          · obtain ⟨d, p, r, hd, hdl, hp⟩ := turnD ds' n hz
            have TY := Lib.hid (turn_yes w BL BO g n hg3 hgl3 hlo hle ds' cap' pre wr hinv.st hinv.few (by have := HAL.out; have := hinv.room; omega) d p r hdl hd)
            have HHD := Lib.hid hhd
            have HPP := Lib.hid hp
            clear hinv hlt hge hle hn hhd htl htp htb hz hd hdl hp
            go_wp2_with (go_at_call 45; refine TY.out.mono ?_; rintro e w9 ⟨rfl, ad, c, hs9⟩; have HI9 := Lib.hid ((HI.out.step HHD.out HPP.out hs9).same HTL.out); clear hs9)
            exact ⟨⟨j + 1, _, _, _, by go_num, HLT.out, HI9.out⟩, by simp [intOf]; have := HLT.out; omega⟩
        · obtain rfl : j = ts.length := by omega
          have HE := Lib.hid (hinv.same (us := []) (List.drop_eq_nil_iff.2 (by simp)))
          clear hinv hlt
          go_wp2_with fail
          go_loopw [58] (fun _ wr => ∃ (ds' : List SlD) (cap' : Nat) (pre : List Pc), WlI w BL BO g all [] ds' cap' pre wr) (fun _ wr => 3000 - lenBox wr BO)
          case atStart => exact ⟨ds', cap', pre, HE.out⟩
          case round =>
            obtain ⟨ds', cap', pre, hinv⟩ := hrel
            have HI := Lib.hid hinv
            have HLN := Lib.hid hinv.st.len_out
            have HRM := Lib.hid hinv.room
            by_cases hn : neD ds' = []
            · have TN0 := turn_no w BL BO g 0 (by omega) (by omega) (by omega) ds' cap' pre wr hinv.st hinv.few hn
              rw [show (((0 : Nat) : Int)) = 0 from rfl] at TN0
              have TN := Lib.hid TN0
              have HNN := Lib.hid hn
              clear hinv hn TN0
              go_wp2_with (go_at_call 45; refine TN.out.mono ?_; rintro e w9 ⟨rfl, hs9⟩; have HS9 := Lib.hid hs9; obtain ⟨sv9, hq9, ho9⟩ := hs9.out; have cc9 := hq9.cell; have HO9 := Lib.hid ho9; clear hs9 hq9 ho9)
              go_ret2
              have hlast := HI.out.so
              rw [wv_end (neD_lls HNN.out), List.append_nil] at hlast
              rw [H1.out, H2.out]
              exact RowPost.own (by have := HO9.out; rw [hlast] at this; exact this) rfl HS9.out.below
            · obtain ⟨d, p, r, hd, hdl, hp⟩ := turnD ds' 0 hn
              have hmore := hinv.more (t := 0) rfl hp
              have TY0 := turn_yes w BL BO g 0 (by omega) (by omega) (by omega) (by omega) ds' cap' pre wr hinv.st hinv.few (by have := HAL.out; omega) d p r hdl hd
              rw [show (((0 : Nat) : Int)) = 0 from rfl] at TY0
              have TY := Lib.hid TY0
              have HPP := Lib.hid hp
              have HMO := Lib.hid hmore
              clear hinv hn hd hdl hp hmore TY0
              go_wp2_with (go_at_call 45; refine TY.out.mono ?_; rintro e w9 ⟨rfl, ad, c, hs9⟩; have HI9 := Lib.hid (HI.out.step (t := 0) rfl HPP.out hs9); clear hs9)
              refine ⟨⟨_, _, _, HI9.out⟩, ?_⟩
              rw [HLN.out, HI9.out.st.len_out, List.length_append]
              have := HMO.out
              have := HAL.out
              simp
              omega

end Go.Proofs.Yteblbpdpfegooaa
