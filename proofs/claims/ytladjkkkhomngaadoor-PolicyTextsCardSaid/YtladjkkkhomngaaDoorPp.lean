/- The law PolicyTexts returns true, whatever the row and the text. -/
import Derived.Test.YtladjkkkhomngaaDoorPo
import Derived.Test.YtladjkkkhomngaaDoorYc
namespace Go.Proofs.YtladjkkkhomngaaDoor
set_option maxRecDepth 8000
open Go.RowKit Go.Sort Go.BigFrame

set_option maxRecDepth 100000 in
set_option maxHeartbeats 1000000 in
theorem short_one (g cap : Nat) (a1 : Option Addr) (n1 c1 : Nat) (w : World) (h0 : w.cell? ⟨g, 0, none⟩ = some (.slice a1 n1 c1)) :
    Calls Tryd.prog 5 #[.slice (some ⟨g, 0, none⟩) 1 cap] w fun e w' => e = .returned (.bool (decide (n1 ≤ 200))) ∧ w = w' := by
  go_enter Tryd.func5, Tryd.ntmps5
  go_wp2_with fail
  go_loopw [7] (fun i wr => ∃ k : Nat, i = .int .i64 k ∧ k ≤ 1 ∧ wr = w ∧ (1 ≤ k → n1 ≤ 200)) (fun i _ => 1 - (intOf i).toNat)
  case atStart => exact ⟨0, rfl, by omega, rfl, fun h => absurd h (by omega)⟩
  case round =>
    obtain ⟨k, rfl, hk, rfl, hn1⟩ := hrel
    have hh : k = 0 ∨ k = 1 := by omega
    rcases hh with rfl | rfl
    · clear hn1
      by_cases h : n1 ≤ 200
      · have e1 : decide ((200 : Int) < (n1 : Int)) = false := by simp; omega
        have e2 : ¬ (200 : Int) < (n1 : Int) := by omega
        have HH := Lib.hid h
        clear h
        go_wp2_with fail
        exact ⟨⟨1, rfl, by omega, by first | trivial | rfl, fun _ => HH.out⟩, by simp [intOf]⟩
      · have e1 : decide ((200 : Int) < (n1 : Int)) = true := by simp; omega
        have e2 : (200 : Int) < (n1 : Int) := by omega
        have HF : Hid (false = decide (n1 ≤ 200)) := Lib.hid (by simp [h])
        clear h
        go_wp2_with fail
        go_ret
        exact ⟨ret_bool HF.out, rfl⟩
    · have HF : Hid (true = decide (n1 ≤ 200)) := Lib.hid (by rw [decide_eq_true (hn1 (by omega))])
      clear hn1
      go_wp2_with fail
      go_ret
      exact ⟨ret_bool HF.out, rfl⟩

/-- A slice in a block of its own. -/
def oneO (a : Value) : Obj := .cells #[a] 22
theorem short_new1 (a1 : Option Addr) (n1 c1 : Nat) (w : World) :
    Calls Tryd.prog 5 #[.slice (some ⟨w.heap.size, 0, none⟩) 1 1] (w.alloc (oneO (.slice a1 n1 c1))) fun e w' => e = .returned (.bool (decide (n1 ≤ 200))) ∧ w.alloc (oneO (.slice a1 n1 c1)) = w' :=
  short_one w.heap.size 1 a1 n1 c1 _ (cells_at (heap_alloc_new w (oneO (.slice a1 n1 c1))) 0)

/-- same of two slices that hold one row. -/
theorem same_of {d1 d2 : SlD} (w : World) (h1 : d1.Ok w) (h2 : d2.Ok w) (he : d1.l = d2.l) (hl : d1.l.length ≤ 1000000) :
    Calls Tryd.prog 15 #[.slice d1.a d1.l.length d1.c, .slice d2.a d2.l.length d2.c] w fun e w' => e = .returned (.bool true) ∧ Below w.heap.size w w' := by
  have := eq13_any d1.a d2.a d1.c d2.c d1.l d2.l w h1.row h2.row hl
  rw [eqL_true he] at this
  exact this

theorem ok_kind_ge {l : List PolD} (h : okS l = true) : ∀ i (hi : i < l.length), (i : Int) + 1 ≤ l[i].k
  | 0, hi => by
    have := okS_val h _ (List.getElem_mem hi)
    simp only [okP, isK, Bool.and_eq_true, decide_eq_true_eq] at this
    omega
  | i + 1, hi => by
    have ih := ok_kind_ge h i (by omega)
    have h2 := ((okS_of h) (i + 1) hi hi).2 (by omega)
    simp only [Nat.add_sub_cancel] at h2
    omega
theorem ok_len {l : List PolD} (h : okS l = true) : l.length ≤ 13 := by
  by_cases h0 : l.length = 0
  · omega
  · have h1 := ok_kind_ge h (l.length - 1) (by omega)
    have h2 := okS_val h _ (List.getElem_mem (show l.length - 1 < l.length by omega))
    simp only [okP, isK, Bool.and_eq_true, decide_eq_true_eq] at h2
    omega
theorem fmt_size (l : List PolD) : (fmtS l).size ≤ 1000 := by
  cases h : okS l with
  | false => rw [fmtS_bad h]; decide
  | true =>
    unfold fmtS
    rw [if_pos h]
    have h1 := join_len (l.map fun p => (textP p).data.toList) (fun x hx => by
      obtain ⟨p, hp, rfl⟩ := List.mem_map.1 hx
      have h2 : (textP p).data.size ≤ 50 := textP_size p (okS_val h p hp)
      rw [Array.length_toList]
      exact h2)
    rw [List.length_map] at h1
    have h2 := ok_len h
    have h3 : (Lib.join (l.map fun p => (textP p).data.toList) [44, 32]).length ≤ 1000 := by omega
    exact h3

/-- What Parse gives of whatever text. -/
def AnyCanon (t : ByteArray) (l : List PolD) (er : Int) : Prop := (t.size = 0 ∧ l = [] ∧ er = 0) ∨ (0 < t.size ∧ Canon t l er)
theorem any_agree {t : ByteArray} {l m : List PolD} {e f : Int} (h : AnyCanon t l e) (k : AnyCanon t m f) : l = m ∧ e = f := by
  rcases h with ⟨h0, h1, h2⟩ | ⟨h0, h1⟩ <;> rcases k with ⟨k0, k1, k2⟩ | ⟨k0, k1⟩
  · exact ⟨by rw [h1, k1], by rw [h2, k2]⟩
  · omega
  · omega
  · exact canon_agree h0 h1 k1
/-- The text of a set is read back. -/
theorem any_back {s l : List PolD} {e : Int} (hs : okS s = true) (h : AnyCanon (fmtS s) l e) : l = s ∧ e = 0 := by
  rcases h with ⟨h0, h1, h2⟩ | ⟨h0, h1 | h1⟩
  · refine ⟨?_, h2⟩
    rw [h1]
    by_cases hn : s = []
    · exact hn.symm
    · exfalso
      have hp := parts_fmt hs hn
      have h3 : fmtS s = ⟨#[]⟩ := by
        rcases hh : fmtS s with ⟨a⟩
        rw [hh] at h0
        have : a = #[] := Array.eq_empty_of_size_eq_zero h0
        rw [this]
      have hl := congrArg List.length hp
      rw [h3, List.length_map] at hl
      have hl2 : (partsB ⟨#[]⟩).length = 1 := by decide
      match s, hn, hl, hp with
      | [p], _, _, hp =>
        rw [h3] at hp
        have h4 := part_exists (okS_val hs p (List.mem_singleton.2 rfl))
        have h5 : partsB ⟨#[]⟩ = [⟨#[]⟩] := by decide
        rw [h5] at hp
        have h6 : (⟨#[]⟩ : ByteArray) = textP p := by simpa using hp
        have h7 := congrArg ByteArray.size h6
        unfold textP at h7
        rw [ByteArray.size_append, ByteArray.size_append] at h7
        have h8 : (⟨#[32]⟩ : ByteArray).size = 1 := rfl
        have h9 : (⟨#[]⟩ : ByteArray).size = 0 := rfl
        omega
      | p :: q :: r, _, hl, _ => rw [hl2] at hl; simp at hl
  · obtain ⟨h2, _, _, h5⟩ := h1
    exact ⟨fmtS_inj h5 rfl h0, h2⟩
  · obtain ⟨_, _, h4⟩ := h1
    exfalso
    have hn : s ≠ [] := by
      intro e
      rw [e, fmtS_nil] at h0
      exact absurd h0 (by decide)
    exact h4 s hs hn rfl

set_option maxRecDepth 100000 in
set_option maxHeartbeats 1000000 in
theorem parse_all (t : ByteArray) (w : World) (h : TxtEnv w) (hs : t.size ≤ 1000) :
    Calls Tryd.prog 28 #[.string t] w fun e w' => ∃ l er, RowPost w l er e w' ∧ AnyCanon t l er := by
  by_cases h0 : 0 < t.size
  · refine (parse_any t _ rfl w h hs h0 (parts_len t hs) (parts_sizes t hs)).mono fun e w' ⟨l, er, hr, hp⟩ => ⟨l, er, hr, .inr ⟨h0, parsed_canon rfl h0 hp⟩⟩
  · obtain rfl : t = ⟨#[]⟩ := by
      obtain ⟨a⟩ := t
      have : a = #[] := Array.eq_empty_of_size_eq_zero (by have : a.size = (⟨a⟩ : ByteArray).size := rfl; omega)
      rw [this]
    clear h hs h0
    go_enter Tryd.func28, Tryd.ntmps28
    go_wp2_with fail
    go_ret2
    exact ⟨[], 0, RowPost.nil rfl rfl (Below.refl _ _), .inl ⟨rfl, rfl, rfl⟩⟩
set_option maxRecDepth 100000 in
set_option maxHeartbeats 1000000 in
theorem rparse_all (t : ByteArray) (w : World) (h : TxtEnv w) (hs : t.size ≤ 1000) :
    Calls Tryd.prog 29 #[.string t] w fun e w' => ∃ l er, RowPost w l er e w' ∧ AnyCanon t l er := by
  by_cases h0 : 0 < t.size
  · refine (rparse_any t _ rfl w h hs h0 (parts_len t hs) (parts_sizes t hs)).mono fun e w' ⟨l, er, hr, hp⟩ => ⟨l, er, hr, .inr ⟨h0, hp⟩⟩
  · obtain rfl : t = ⟨#[]⟩ := by
      obtain ⟨a⟩ := t
      have : a = #[] := Array.eq_empty_of_size_eq_zero (by have : a.size = (⟨a⟩ : ByteArray).size := rfl; omega)
      rw [this]
    clear h hs h0
    go_enter Tryd.func29, Tryd.ntmps29
    go_wp2_with fail
    go_ret2
    exact ⟨[], 0, RowPost.nil rfl rfl (Below.refl _ _), .inl ⟨rfl, rfl, rfl⟩⟩

set_option maxRecDepth 100000 in
set_option maxHeartbeats 1000000 in
theorem texts_long (a1 : Option Addr) (n1 c1 : Nat) (t : ByteArray) (w : World) (hS : SortsAt w) (h : ¬ (n1 ≤ 200 ∧ t.size ≤ 1000)) :
    Calls Tryd.prog 4 #[.slice a1 n1 c1, .string t] w fun e w' => e = .returned (.bool true) ∧ Below w.heap.size w w' := by
  have hb : Below w.heap.size w (w.alloc (oneO (.slice a1 n1 c1))) := (Below.refl _ _).alloc (Nat.le_refl _) _
  have HB := Lib.hid hb
  have SH := Lib.hid (short_new1 a1 n1 c1 w)
  have AW := Lib.hid (awake_any _ (hS.below hb hS.pos))
  by_cases h1 : n1 ≤ 200
  · rw [decide_eq_true h1] at SH
    have e1 : (1000 : Int) < (t.size : Int) := by omega
    have e2 : decide ((1000 : Int) < (t.size : Int)) = true := by simpa using e1
    clear hS h hb h1
    go_enter Tryd.func4, Tryd.ntmps4
    go_wp2_with (first | (go_at_call 5; refine SH.out.mono ?_; rintro e w1 ⟨rfl, rfl⟩) | (go_at_call 6; refine AW.out.mono ?_; rintro e w2 ⟨rfl, hb2⟩; have B2 := Lib.hid hb2; clear hb2))
    go_ret
    exact ⟨rfl, HB.out.trans (B2.out.mono HB.out.size)⟩
  · rw [decide_eq_false h1] at SH
    clear hS h hb h1
    go_enter Tryd.func4, Tryd.ntmps4
    go_wp2_with (first | (go_at_call 5; refine SH.out.mono ?_; rintro e w1 ⟨rfl, rfl⟩) | (go_at_call 6; refine AW.out.mono ?_; rintro e w2 ⟨rfl, hb2⟩; have B2 := Lib.hid hb2; clear hb2))
    go_ret
    exact ⟨rfl, HB.out.trans (B2.out.mono HB.out.size)⟩

set_option maxRecDepth 100000 in
set_option maxHeartbeats 4000000 in
theorem texts_short (ds : SlD) (t : ByteArray) (w : World) (hT : TxtEnv w) (h : ds.Ok w) (hl : ds.l.length ≤ 200) (ht : t.size ≤ 1000) :
    Calls Tryd.prog 4 #[.slice ds.a ds.l.length ds.c, .string t] w fun e w' => e = .returned (.bool true) ∧ Below w.heap.size w w' := by
  have hb : Below w.heap.size w (w.alloc (oneO ds.v)) := (Below.refl _ _).alloc (Nat.le_refl _) _
  have SH := short_new1 ds.a ds.l.length ds.c w
  rw [decide_eq_true hl] at SH
  obtain ⟨v1, hv1⟩ : ∃ v1, w.alloc (oneO ds.v) = v1 := ⟨_, rfl⟩
  rw [show ds.v = .slice ds.a ds.l.length ds.c from rfl] at hv1 hb
  rw [hv1] at hb SH
  replace SH := Lib.hid SH
  have HV := Lib.hid hv1
  have BW := Lib.hid hb
  have B1 := Lib.hid (Below.refl v1.heap.size v1)
  replace hT := hT.below hb
  replace h := h.below hb
  have e1 : ¬ (1000 : Int) < (t.size : Int) := by omega
  have e2 : decide ((1000 : Int) < (t.size : Int)) = false := by simp; omega
  have AW := Lib.hid fun wx (hx : Below v1.heap.size v1 wx) => awake_any wx (hT.below hx).sorts
  have FO := Lib.hid fun wx (hx : Below v1.heap.size v1 wx) => format_any ds wx (hT.below hx) (h.below hx) (by omega)
  have RF := Lib.hid fun wx (hx : Below v1.heap.size v1 wx) => rformat_any ds wx (hT.below hx) (h.below hx) (by omega)
  have VS := Lib.hid fun wx (hx : Below v1.heap.size v1 wx) => rvalidSet_any ds.a ds.c ds.l wx (hT.below hx).sorts (h.row.below hx) (by omega)
  have PA := Lib.hid fun wx (hx : Below v1.heap.size v1 wx) => parse_all t wx (hT.below hx) ht
  have RP := Lib.hid fun wx (hx : Below v1.heap.size v1 wx) => rparse_all t wx (hT.below hx) ht
  have PB := Lib.hid fun wx (hx : Below v1.heap.size v1 wx) => parse_all (fmtS ds.l) wx (hT.below hx) (fmt_size ds.l)
  have OKd := Lib.hid fun wx (hx : Below v1.heap.size v1 wx) => h.below hx
  have HL := Lib.hid hl
  have BK := Lib.hid fun (l : List PolD) (e : Int) (hs : okS ds.l = true) => any_back (l := l) (e := e) hs
  obtain ⟨fs, hfs⟩ : ∃ fs, fmtS ds.l = fs := ⟨_, rfl⟩
  rw [hfs] at FO RF PB BK
  have q0 : (fs.toList != fs.toList) = false := by simp
  clear hb hT h hl ht hv1 hfs
  go_enter Tryd.func4, Tryd.ntmps4
  go_wp2_with fail
  rw [show w.alloc (Obj.cells #[Value.slice ds.a ds.l.length ds.c] 22) = v1 from HV.out]
  refine SH.out.mono ?_
  rintro e w1 ⟨rfl, rfl⟩
  go_wp2_with fail
  refine (FO.out _ B1.out).mono ?_
  rintro e w2 ⟨rfl, hb⟩
  have B2 := Lib.hid (B1.out.trans (hb.mono B1.out.size))
  clear hb
  go_wp2_with fail
  refine (PA.out _ B2.out).mono ?_
  rintro e w3 ⟨la, ea, ⟨da, rfl, rfl, hok, hb⟩, hca⟩
  have CA := Lib.hid hca
  have K3 := Lib.hid hok
  have B3 := Lib.hid (B2.out.trans (hb.mono B2.out.size))
  clear hok hb hca
  unfold SlD.v
  go_wp2_with fail
  refine (RP.out _ B3.out).mono ?_
  rintro e w4 ⟨lb, eb, ⟨db, rfl, rfl, hok, hb⟩, hcb⟩
  have K4 := Lib.hid hok
  have K3b := Lib.hid (K3.out.below hb)
  have B4 := Lib.hid (B3.out.trans (hb.mono B3.out.size))
  obtain ⟨hl2, rfl⟩ := any_agree CA.out hcb
  have HLE := Lib.hid hl2
  have HLA : Hid (da.l.length ≤ 1000000) := Lib.hid (by
    rcases CA.out with ⟨_, g, _⟩ | ⟨_, ⟨_, g, _⟩ | ⟨_, g, _⟩⟩
    · rw [g]; simp
    · have := ok_len g; omega
    · rw [g]; simp)
  clear hok hb hcb hl2
  unfold SlD.v
  have q1 : (ea != ea) = false := by simp
  go_wp2_with fail
  refine (RF.out _ B4.out).mono ?_
  rintro e w5 ⟨rfl, hb⟩
  have K5a := Lib.hid (K3b.out.below hb)
  have K5b := Lib.hid (K4.out.below hb)
  have B5 := Lib.hid (B4.out.trans (hb.mono B4.out.size))
  clear hb
  go_wp2_with fail
  refine (same_of w5 K5a.out K5b.out HLE.out HLA.out).mono ?_
  rintro e w6 ⟨rfl, hb⟩
  have B6 := Lib.hid (B5.out.trans (hb.mono B5.out.size))
  clear hb
  go_wp2_with fail
  refine (VS.out _ B6.out).mono ?_
  rintro e w7 ⟨rfl, hb⟩
  have B7 := Lib.hid (B6.out.trans (hb.mono B6.out.size))
  clear hb
  cases hs : okS ds.l with
  | false =>
    clear hs
    go_wp2_with fail
    refine (AW.out _ B7.out).mono ?_
    rintro e w8 ⟨rfl, hb⟩
    have B8 := Lib.hid (BW.out.trans ((B7.out.trans (hb.mono B7.out.size)).mono BW.out.size))
    clear hb
    go_wp2_with fail
    go_ret
    exact ⟨rfl, B8.out⟩
  | true =>
    have BKs := Lib.hid fun l e => BK.out l e hs
    clear hs
    go_wp2_with fail
    refine (PB.out _ B7.out).mono ?_
    rintro e w8 ⟨lc, ec, ⟨dc, rfl, rfl, hok, hb⟩, hcc⟩
    have K8 := Lib.hid hok
    have B8 := Lib.hid (B7.out.trans (hb.mono B7.out.size))
    obtain ⟨hl3, rfl⟩ := BKs.out _ _ hcc
    have HL3 := Lib.hid hl3
    clear hok hb hcc hl3
    unfold SlD.v
    go_wp2_with fail
    refine (same_of w8 K8.out (OKd.out _ B8.out) HL3.out (by rw [HL3.out]; have := HL.out; omega)).mono ?_
    rintro e w9 ⟨rfl, hb⟩
    have B9 := Lib.hid (B8.out.trans (hb.mono B8.out.size))
    clear hb
    go_wp2_with fail
    refine (AW.out _ B9.out).mono ?_
    rintro e w10 ⟨rfl, hb⟩
    have B10 := Lib.hid (BW.out.trans ((B9.out.trans (hb.mono B9.out.size)).mono BW.out.size))
    clear hb
    go_wp2_with fail
    go_ret
    exact ⟨rfl, B10.out⟩

end Go.Proofs.YtladjkkkhomngaaDoor
