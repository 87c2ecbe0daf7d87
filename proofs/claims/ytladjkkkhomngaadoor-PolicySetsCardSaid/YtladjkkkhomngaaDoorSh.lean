/- The contracts of policy.Without and of the reference's. -/
import Derived.Test.YtladjkkkhomngaaDoorSg
namespace Go.Proofs.YtladjkkkhomngaaDoor
set_option maxRecDepth 8000
open Go.RowKit Go.Sort Go.BigFrame

/-- What Without returns, and its error. -/
noncomputable def wiL (q : Int) (l : List PolD) : List PolD := if okS l = true ∧ isK q = true then l.filter (isNot q) else []
noncomputable def wiE (q : Int) (l : List PolD) : Int := if okS l = true then (if isK q = true then 0 else 10) else 1
theorem wi_bad {q : Int} {l : List PolD} (h : okS l = false) : wiL q l = [] ∧ wiE q l = 1 := by
  unfold wiL wiE; exact ⟨if_neg (fun g => by rw [h] at g; cases g.1), if_neg (by rw [h]; decide)⟩
theorem wi_kind {q : Int} {l : List PolD} (h : okS l = true) (hq : isK q = false) : wiL q l = [] ∧ wiE q l = 10 := by
  unfold wiL wiE; exact ⟨if_neg (fun g => by rw [hq] at g; cases g.2), by rw [if_pos h, if_neg (by rw [hq]; decide)]⟩
theorem wi_good {q : Int} {l : List PolD} (h : okS l = true) (hq : isK q = true) : wiL q l = l.filter (isNot q) ∧ wiE q l = 0 := by
  unfold wiL wiE; exact ⟨if_pos ⟨h, hq⟩, by rw [if_pos h, if_pos hq]⟩

set_option maxRecDepth 100000 in
set_option maxHeartbeats 1000000 in
theorem without_any (d : SlD) (q : Int) (w : World) (hS : SortsAt w) (h : d.Ok w) (hl : d.l.length ≤ 1000) :
    Calls Tryd.prog 19 #[.slice d.a d.l.length d.c, .int .i64 q] w (RowPost w (wiL q d.l) (wiE q d.l)) := by
  have hb : Below w.heap.size w (w.alloc (boxO q)) := (Below.refl _ _).alloc (Nat.le_refl _) _
  have HB := Lib.hid hb
  have HC := Lib.hid (boxO_c q w)
  have HSZ : Hid (w.heap.size < (w.alloc (boxO q)).heap.size) := Lib.hid (by simp)
  have VS := Lib.hid (validSet_any d.a d.c d.l (w.alloc (boxO q)) (hS.below hb hS.pos) (h.row.below hb) (by omega))
  have IK := Lib.hid fun wx => isKind_any q wx
  have FI := Lib.hid fun wx (hx : Below (w.alloc (boxO q)).heap.size (w.alloc (boxO q)) wx) => filteredN d wx (hS.below (hb.trans (hx.mono hb.size)) hS.pos) (h.below (hb.trans (hx.mono hb.size))) (by omega) q w.heap.size (Nat.lt_of_lt_of_le HSZ.out hx.size) ((hx.cell HSZ.out).trans HC.out)
  obtain ⟨r, hr⟩ : ∃ r, okS d.l = r := ⟨_, rfl⟩
  obtain ⟨t, ht⟩ : ∃ t, isK q = t := ⟨_, rfl⟩
  rw [hr] at VS
  rw [ht] at IK
  have HR := Lib.hid hr
  have HT := Lib.hid ht
  clear hS h hl hb hr ht
  cases r
  · have HF := Lib.hid (wi_bad (q := q) HR.out)
    go_enter Tryd.func19, Tryd.ntmps19
    go_wp2_with (go_at_call 13; refine VS.out.mono ?_; rintro e w1 ⟨rfl, hb1⟩; have B1 := Lib.hid (HB.out.trans (hb1.mono HB.out.size)); clear hb1)
    go_ret2
    exact RowPost.nil HF.out.1 (by rw [HF.out.2]; rfl) B1.out
  · cases t
    · have HF := Lib.hid (wi_kind (q := q) HR.out HT.out)
      go_enter Tryd.func19, Tryd.ntmps19
      go_wp2_with (first | (go_at_call 13; refine VS.out.mono ?_; rintro e w1 ⟨rfl, hb1⟩; have n0 := (hb1.cell (p := ⟨w.heap.size, 0, none⟩) HSZ.out).trans HC.out; have B1 := Lib.hid (HB.out.trans (hb1.mono HB.out.size)); clear hb1) | (go_at_call 39; refine (IK.out _).mono ?_; rintro e w2 ⟨rfl, rfl⟩))
      go_ret2
      exact RowPost.nil HF.out.1 (by rw [HF.out.2]; rfl) B1.out
    · have HF : Hid (wiL q d.l = fL (isNot q) d.l ∧ wiE q d.l = plE d.l) := Lib.hid (by
        have := wi_good (q := q) HR.out HT.out
        exact ⟨this.1.trans (by unfold fL; rw [if_pos HR.out]), this.2.trans (by unfold plE; rw [if_pos HR.out])⟩)
      rw [HF.out.1, HF.out.2]
      obtain ⟨L, hL⟩ : ∃ L, fL (isNot q) d.l = L := ⟨_, rfl⟩
      obtain ⟨er, her⟩ : ∃ er, plE d.l = er := ⟨_, rfl⟩
      rw [hL, her] at FI
      rw [hL, her]
      clear hL her
      go_enter Tryd.func19, Tryd.ntmps19
      go_wp2_with (first | (go_at_call 13; refine VS.out.mono ?_; rintro e w1 ⟨rfl, hb1⟩; have n0 := (hb1.cell (p := ⟨w.heap.size, 0, none⟩) HSZ.out).trans HC.out; have N1 := Lib.hid hb1; have B1 := Lib.hid (HB.out.trans (hb1.mono HB.out.size)); clear hb1) | (go_at_call 39; refine (IK.out _).mono ?_; rintro e w2 ⟨rfl, rfl⟩) | (go_at_call 47; refine (FI.out _ N1.out).mono ?_; rintro e w3 ⟨d3, hd, rfl, hok, hb3⟩; have HD := Lib.hid hd; have HO := Lib.hid hok; have B3 := Lib.hid (B1.out.trans (hb3.mono B1.out.size)); clear hd hok hb3; unfold SlD.v))
      go_ret2
      exact ⟨d3, HD.out, rfl, HO.out, B3.out⟩

set_option maxRecDepth 100000 in
set_option maxHeartbeats 4000000 in
theorem rwithout_any (d : SlD) (q : Int) (w : World) (hS : SortsAt w) (h : d.Ok w) (hl : d.l.length ≤ 1000) :
    Calls Tryd.prog 20 #[.slice d.a d.l.length d.c, .int .i64 q] w (RowPost w (wiL q d.l) (wiE q d.l)) := by
  obtain ⟨ao, l, cap⟩ := d
  simp only at hl ⊢
  have VS := Lib.hid (rvalidSet_any ao cap l w hS h.row (by omega))
  have IK := Lib.hid fun wx => kind_any q wx
  obtain ⟨r, hr⟩ : ∃ r, okS l = r := ⟨_, rfl⟩
  obtain ⟨t, ht⟩ : ∃ t, isK q = t := ⟨_, rfl⟩
  rw [hr] at VS
  rw [ht] at IK
  have HR := Lib.hid hr
  have HT := Lib.hid ht
  have HRO : Hid (RowAt w ao l) := Lib.hid h.row
  have HL := Lib.hid hl
  clear hS h hl hr ht
  cases r
  · have HF := Lib.hid (wi_bad (q := q) HR.out)
    go_enter Tryd.func20, Tryd.ntmps20
    go_wp2_with (go_at_call 14; refine VS.out.mono ?_; rintro e w1 ⟨rfl, hb1⟩; have B1 := Lib.hid hb1; clear hb1)
    go_ret2
    exact RowPost.nil HF.out.1 (by rw [HF.out.2]; rfl) B1.out
  · cases t
    · have HF := Lib.hid (wi_kind (q := q) HR.out HT.out)
      go_enter Tryd.func20, Tryd.ntmps20
      go_wp2_with (first | (go_at_call 14; refine VS.out.mono ?_; rintro e w1 ⟨rfl, hb1⟩; have B1 := Lib.hid hb1; clear hb1) | (go_at_call 41; refine (IK.out _).mono ?_; rintro e w2 ⟨rfl, rfl⟩))
      go_ret2
      exact RowPost.nil HF.out.1 (by rw [HF.out.2]; rfl) B1.out
    · have HF := Lib.hid (wi_good (q := q) HR.out HT.out)
      go_enter Tryd.func20, Tryd.ntmps20
      go_wp2_with (first | (go_at_call 14; refine VS.out.mono ?_; rintro e w1 ⟨rfl, hb1⟩; have B1 := Lib.hid hb1; clear hb1) | (go_at_call 41; refine (IK.out _).mono ?_; rintro e w2 ⟨rfl, rfl⟩))
      go_loopw [6, 19] (fun v i wr => ∃ k : Nat, i = .int .i64 k ∧ k ≤ l.length ∧ SelI (isNot q) w1 wr l k v) (fun _ i _ => l.length - (intOf i).toNat)
      case atStart => exact ⟨0, rfl, Nat.zero_le _, World.ownsRow_nil _ _ _ _, Below.refl _ _⟩
      case round =>
        obtain ⟨k, rfl, hk, hinv⟩ := hrel
        have HI := Lib.hid hinv
        clear hinv
        by_cases hlt : k < l.length
        · rcases HRO.out.below B1.out with h0 | ⟨b, off, h1, hb, hp⟩
          · (try simp only at h0); subst h0; exact absurd hlt (by simp)
          try simp only at h1
          subst h1
          obtain ⟨c0, c1⟩ := (hp.below HI.out.below hb) k hlt
          try simp only at c0 c1
          obtain ⟨kk, hkk⟩ : ∃ kk, l[k].k = kk := ⟨_, rfl⟩
          obtain ⟨vv, hvv⟩ : ∃ vv, l[k].v = vv := ⟨_, rfl⟩
          rw [hkk] at c0
          rw [hvv] at c1
          have HKK := Lib.hid hkk
          have HVV := Lib.hid hvv
          have hb1 : Below wr.heap.size wr (wr.alloc (polO kk vv)) := (Below.refl _ _).alloc (Nat.le_refl _) _
          have HI1 := Lib.hid (HI.out.later hb1)
          have hk1 : (k : Int) < (l.length : Int) := by omega
          have hk2 : (k : Int) + 1 ≤ 9223372036854775807 := by have := HL.out; (try simp only at this); omega
          have n0 := polO_c0 kk vv wr
          have n1 := polO_c1 kk vv wr
          clear hkk hvv hp hb1
          by_cases hq : kk = q
          · have HRR : Hid (isNot q l[k] = false) := Lib.hid (by unfold isNot; rw [HKK.out, hq]; simp)
            have e1 : (kk != q) = false := by simpa using hq
            clear hq
            go_wp2_with fail
            have HN : Hid (SelI (isNot q) w1 (wr.alloc (polO kk vv)) l (k + 1) _) := Lib.hid (⟨by rw [selTo_no hlt HRR.out]; exact HI1.out.own, HI1.out.below⟩)
            exact ⟨⟨k + 1, by go_num, hlt, HN.out⟩, by simp [intOf]; omega⟩
          · have HRR : Hid (isNot q l[k] = true) := Lib.hid (by unfold isNot; rw [HKK.out]; simpa using hq)
            have e1 : (kk != q) = true := by simpa using hq
            have HLK : Hid ((selTo (isNot q) l k).length ≤ 1000000) := Lib.hid (by have := selTo_len (isNot q) l k; have := HL.out; (try simp only at this); omega)
            have HNW : Hid (((wr.alloc (polO kk vv)).alloc (polO kk vv)).heap[wr.heap.size + 1]? = some (polO kk vv)) := Lib.hid (by have := heap_alloc_new (wr.alloc (polO kk vv)) (polO kk vv); rw [World.size_alloc] at this; exact this)
            clear hq
            obtain ⟨i0, hi, hz0, hz1, hz2⟩ := info_parts Tryd.info46
            go_wp2_with (at_builtin; refine wpList_append_own_at _ rfl _ _ 22 rfl w1.heap.size 24 i0 (.agg #[.int .i64 0, .int .i64 0]) 2 16 under22 hi hz0 hz1 hz2 rfl (by decide) _ _ _ rfl (HI1.out.own.alloc _) ⟨wr.heap.size + 1, 0, none⟩ 1 1 [.int .i64 kk, .int .i64 vv] rfl rfl (cell_pol_new HNW.out) (by simp [Value.oneCell']) (by have := HLK.out; unfold maxLen; omega) (by have := HLK.out; omega) (by have := HI1.out.below.size; simp at this ⊢; omega) ?_; intro v' w3 hown' hgrow _ _; have HI3 := Lib.hid (SelI.grown (HI1.out.later ((Below.refl _ _).alloc (Nat.le_refl _) _)) hgrow hown' hlt HKK.out HVV.out HRR.out); clear hown' hgrow)
            exact ⟨⟨k + 1, by go_num, hlt, HI3.out⟩, by simp [intOf]; omega⟩
        · obtain rfl : k = l.length := by omega
          go_wp2_with fail
          go_ret2
          refine RowPost.own (l := wiL q l) (base := w1.heap.size) ?_ (by rw [HF.out.2]; rfl) (B1.out.trans (HI.out.below.mono B1.out.size))
          rw [HF.out.1]
          have := HI.out.own
          rw [selTo_all] at this
          exact this

end Go.Proofs.YtladjkkkhomngaaDoor
