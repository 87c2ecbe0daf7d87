/- The contract of policy.Parse. -/
import Derived.Test.YtladjkkkhomngaaDoorPj
namespace Go.Proofs.YtladjkkkhomngaaDoor
set_option maxRecDepth 8000
open Go.RowKit Go.Sort Go.BigFrame

/-- Each part is read. -/
def AllRead (ps : List ByteArray) (l : List PolD) : Prop := ∀ j (_ : j < ps.length) (_ : j < l.length), PartIs ps[j] l[j]
theorem AllRead.snoc {ps : List ByteArray} {l : List PolD} {p : PolD} (h : AllRead ps l) (hl : l.length < ps.length) (hp : PartIs ps[l.length] p) : AllRead ps (l ++ [p]) := fun j h1 h2 => by
  by_cases e : j < l.length
  · rw [List.getElem_append_left e]
    exact h j h1 e
  · have : j = l.length := by simp at h2; omega
    subst this
    rw [List.getElem_append_right (Nat.le_refl _)]
    simpa using hp
/-- What policy.Parse has read. -/
def Parsed (t : ByteArray) (ps : List ByteArray) (l : List PolD) (er : Int) : Prop :=
  (er = 2 ∧ l = [] ∧ ((∃ i, ∃ h : i < ps.length, KindIs (nameB ps[i]) 0) ∨ ∃ l', l'.length = ps.length ∧ AllRead ps l' ∧ fmtS l' ≠ t)) ∨ (er = 0 ∧ l.length = ps.length ∧ AllRead ps l ∧ fmtS l = t)
theorem valB_size (t : ByteArray) (h : t.size ≤ 1000) : (valB t).size ≤ 100000 := by
  unfold valB
  have h1 : t.data.toList.length ≤ 1000 := by rw [Array.length_toList]; exact h
  have h2 : ((Lib.cut t.data.toList [32]).2.1).length ≤ 1000 := by
    unfold Lib.cut
    split
    · simp only [List.length_drop]; omega
    · simp
  have h3 : (⟨((Lib.cut t.data.toList [32]).2.1).toArray⟩ : ByteArray).size = ((Lib.cut t.data.toList [32]).2.1).length := rfl
  omega
/-- Between two rounds. -/
structure PsI (w wr : World) (ps : List ByteArray) (k : Nat) (l : List PolD) (sv : Value) : Prop where
  len : l.length = k
  read : AllRead ps l
  own : wr.ownsRow w.heap.size 24 2 sv k (polCells l)
  below : Below w.heap.size w wr
theorem PsI.later {w wr wx : World} {ps : List ByteArray} {k : Nat} {l : List PolD} {sv : Value} (h : PsI w wr ps k l sv) (hb : Below wr.heap.size wr wx) : PsI w wx ps k l sv :=
  ⟨h.len, h.read, ownsRow_below h.own hb, h.below.trans (hb.mono h.below.size)⟩
theorem PsI.grown {w wr wx : World} {ps : List ByteArray} {k : Nat} {l : List PolD} {sv sv' : Value} {q v : Int} (h : PsI w wr ps k l sv) (hg : wr.grownBy wx sv.ownBlock) (ho : wx.ownsRow w.heap.size 24 2 sv' (k + 1) (polCells l ++ [.int .i64 q, .int .i64 v]))
    (hk : k < ps.length) (hp : PartIs ps[k] ⟨q, v⟩) : PsI w wx ps (k + 1) (l ++ [⟨q, v⟩]) sv' := by
  have hl := h.len
  subst hl
  refine ⟨by simp, h.read.snoc hk hp, by rw [polCells_snoc]; exact ho, ?_⟩
  refine ⟨hg.os.trans h.below.os, hg.tape.trans h.below.tape, hg.output.trans h.below.output, Nat.le_trans h.below.size hg.size, fun j hj => (hg.block j (Nat.lt_of_lt_of_le hj h.below.size) fun e => ?_).trans (h.below.block j hj)⟩
  have := (h.own.lt j e.symm).1
  omega

set_option maxRecDepth 100000 in
set_option maxHeartbeats 8000000 in
theorem parse_any (t : ByteArray) (ps : List ByteArray) (hps : partsB t = ps) (w : World) (h : TxtEnv w) (hs : t.size ≤ 1000) (h0 : 0 < t.size) (hn : ps.length ≤ 1000) (hps0 : ∀ i (h : i < ps.length), (ps[i]).size ≤ 1000) :
    Calls Tryd.prog 28 #[.string t] w fun e w' => ∃ l er, RowPost w l er e w' ∧ Parsed t ps l er := by
  have SP := Lib.hid (split_any t w h (by omega))
  have s1 : ¬ (65536 : Int) < (t.size : Int) := by omega
  have s2 : decide ((65536 : Int) < (t.size : Int)) = false := by simp; omega
  have s4 : t.toList.isEmpty = false := by
    obtain ⟨⟨x⟩⟩ := t
    rw [ByteArray.toList_mk]
    cases x with
    | nil => simp [ByteArray.size] at h0
    | cons a r => rfl
  rw [hps] at SP
  have HE := Lib.hid fun wx (hx : Below w.heap.size w wx) => h.below hx
  have HN := Lib.hid hn
  have HPS := Lib.hid hps0
  clear h hs h0 hn hps hps0
  obtain ⟨i0, hi, hz0, hz1, hz2⟩ := info_parts Tryd.info46
  go_enter Tryd.func28, Tryd.ntmps28
  go_wp2_with (go_at_call 56; refine SP.out.mono ?_; rintro e w1 ⟨b, c, rfl, hst, hb1⟩; have B1 := Lib.hid hb1; have HST := Lib.hid hst; clear hb1 hst)
  go_loopw [4, 20] (fun v i wr => ∃ k : Nat, i = .int .i64 k ∧ k ≤ ps.length ∧ ∃ l, PsI w1 wr ps k l v) (fun _ i _ => ps.length - (intOf i).toNat)
  case atStart => exact ⟨0, rfl, Nat.zero_le _, [], rfl, fun j _ h2 => absurd h2 (by simp), World.ownsRow_nil _ _ _ _, Below.refl _ _⟩
  case round =>
    obtain ⟨k, rfl, hk, l, hinv⟩ := hrel
    have HI := Lib.hid hinv
    clear hinv
    by_cases hlt : k < ps.length
    · have c0 := (HST.out.below HI.out.below).2 k ps[k] (List.getElem?_eq_getElem hlt)
      have hsz := HPS.out k hlt
      obtain ⟨pt, hpt⟩ : ∃ pt, ps[k] = pt := ⟨_, rfl⟩
      rw [hpt] at c0 hsz
      have HPT := Lib.hid hpt
      have HEr := Lib.hid fun wx (hx : Below w1.heap.size w1 wx) => HE.out wx (B1.out.trans (hx.mono B1.out.size))
      have CU := Lib.hid (cut_any pt wr (HEr.out _ HI.out.below) (by omega))
      have hk1 : (k : Int) < (ps.length : Int) := by omega
      have hk2 : (k : Int) + 1 ≤ 9223372036854775807 := by have := HN.out; omega
      have hk0 : (0 : Int) ≤ (k : Int) := by omega
      clear hpt
      go_wp2_with (go_at_call 57; refine CU.out.mono ?_; rintro e w2 ⟨f, rfl, hb2⟩; have HI2 := Lib.hid (HI.out.later hb2); clear hb2)
      refine (kindOf_any (nameB pt) w2 (HEr.out _ HI2.out.below)).mono ?_
      rintro e w3 ⟨kk, rfl, hkk, hb3⟩
      have HI3 := Lib.hid (HI2.out.later hb3)
      have HKK := Lib.hid hkk
      clear hb3 hkk
      by_cases hz : kk = 0
      · subst hz
        go_wp2_with fail
        go_ret2
        exact ⟨[], 2, RowPost.nil rfl rfl (B1.out.trans (HI3.out.below.mono B1.out.size)), .inl ⟨rfl, rfl, .inl ⟨k, hlt, by rw [HPT.out]; exact HKK.out⟩⟩⟩
      · have hkr : 1 ≤ kk ∧ kk ≤ 13 := by
          rcases HKK.out with ⟨g, _⟩ | ⟨g1, g2, _⟩
          · exact absurd g hz
          · exact ⟨g1, g2⟩
        have e1 : ¬ (kk : Int) < 1 := by omega
        have e2 : decide ((kk : Int) < 1) = false := by simp; omega
        have HKR := Lib.hid hkr
        clear hz hkr
        go_wp2_with fail
        refine (valueOf_any kk (valB pt) w3 (HEr.out _ HI3.out.below) HKR.out.1 HKR.out.2).mono ?_
        rintro e w4 ⟨nn, rfl, hnn, hb4⟩
        have HI4 := Lib.hid (HI3.out.later hb4)
        have HNN := Lib.hid hnn
        clear hb4 hnn
        go_wp2_with fail
        refine (byDefault_any kk w4 (HEr.out _ HI4.out.below).sorts (by have := HKR.out; simp [isK]; omega)).mono ?_
        rintro e w5 ⟨rfl, rfl⟩
        have HLK : Hid (k ≤ 1000) := Lib.hid (by have := HN.out; omega)
        by_cases h10 : kk = 10 ∨ kk = 12
        · have hd : defV (kk : Int) = 0 := by unfold defV; rw [if_pos (by omega)]
          rw [hd]
          have HP : Hid (PartIs ps[k] ⟨kk, atoiV (valB pt)⟩) := Lib.hid (by rw [HPT.out]; exact ⟨kk, HKR.out.1, HKR.out.2, HKK.out, rfl, .inl ⟨h10, rfl⟩⟩)
          have AT := Lib.hid (atoi_any (valB pt) w4 (HEr.out _ HI4.out.below) (valB_size pt hsz))
          clear h10 hd
          go_wp2_with (first | (go_at_call 60; refine AT.out.mono ?_; rintro e w6 ⟨ev, rfl, hb6⟩; have HI6 := Lib.hid (HI4.out.later hb6); clear hb6) | (at_builtin; refine wpList_append_own_at _ rfl _ _ 22 rfl w1.heap.size 24 i0 (.agg #[.int .i64 0, .int .i64 0]) 2 16 under22 hi hz0 hz1 hz2 rfl (by decide) _ _ _ rfl (HI6.out.own.alloc _) ⟨w6.heap.size, 0, none⟩ 1 1 [.int .i64 kk, .int .i64 (atoiV (valB pt))] rfl rfl (cell_pol_new (heap_alloc_new _ _)) (by simp [Value.oneCell']) (by have := HLK.out; unfold maxLen; omega) (by have := HLK.out; omega) (by have := HI6.out.below.size; simp; omega) ?_; intro v' w7 hown' hgrow _ _; have HI7 := Lib.hid (PsI.grown (HI6.out.later ((Below.refl _ _).alloc (Nat.le_refl _) _)) hgrow hown' hlt HP.out); clear hown' hgrow))
          exact ⟨⟨k + 1, by go_num, hlt, _, HI7.out⟩, by simp [intOf]; omega⟩
        · have hd : defV (kk : Int) = 1 := by unfold defV; rw [if_neg (by omega)]
          rw [hd]
          have HP : Hid (PartIs ps[k] ⟨kk, nn⟩) := Lib.hid (by rw [HPT.out]; exact ⟨kk, HKR.out.1, HKR.out.2, HKK.out, rfl, .inr ⟨h10, nn, HNN.out, rfl⟩⟩)
          clear h10 hd
          go_wp2_with (at_builtin; refine wpList_append_own_at _ rfl _ _ 22 rfl w1.heap.size 24 i0 (.agg #[.int .i64 0, .int .i64 0]) 2 16 under22 hi hz0 hz1 hz2 rfl (by decide) _ _ _ rfl (HI4.out.own.alloc _) ⟨w4.heap.size, 0, none⟩ 1 1 [.int .i64 kk, .int .i64 nn] rfl rfl (cell_pol_new (heap_alloc_new _ _)) (by simp [Value.oneCell']) (by have := HLK.out; unfold maxLen; omega) (by have := HLK.out; omega) (by have := HI4.out.below.size; simp; omega) ?_; intro v' w7 hown' hgrow _ _; have HI7 := Lib.hid (PsI.grown (HI4.out.later ((Below.refl _ _).alloc (Nat.le_refl _) _)) hgrow hown' hlt HP.out); clear hown' hgrow)
          exact ⟨⟨k + 1, by go_num, hlt, _, HI7.out⟩, by simp [intOf]; omega⟩
    · obtain rfl : k = ps.length := by omega
      obtain ⟨⟨da, dl, dc⟩, hd1, rfl, hok⟩ := sl_of_own (l := l) (by rw [HI.out.len]; exact HI.out.own)
      simp only at hd1
      subst hd1
      have HO := Lib.hid hok
      have BR := Lib.hid (B1.out.trans (HI.out.below.mono B1.out.size))
      have FO := Lib.hid (format_any ⟨da, dl, dc⟩ wr (HE.out _ BR.out) hok (by have := HI.out.len; have := HN.out; simp only; omega))
      simp only at FO
      clear hok
      unfold SlD.v
      simp only
      obtain ⟨fs, hfs⟩ : ∃ fs, fmtS dl = fs := ⟨_, rfl⟩
      rw [hfs] at FO
      by_cases he : fs = t
      · have e1 := bytes_yes he
        have e2 : (fs.toList != t.toList) = false := by simp [bne, e1]
        have HF : Hid (Parsed t ps dl 0) := Lib.hid (.inr ⟨rfl, HI.out.len, HI.out.read, hfs.trans he⟩)
        clear he hfs
        go_wp2_with (go_at_call 27; refine FO.out.mono ?_; rintro e w8 ⟨rfl, hb8⟩; have B8 := Lib.hid (BR.out.trans (hb8.mono BR.out.size)); have N8 := Lib.hid hb8; clear hb8)
        go_ret2
        exact ⟨dl, 0, ⟨⟨da, dl, dc⟩, rfl, rfl, HO.out.below N8.out, B8.out⟩, HF.out⟩
      · have e1 := bytes_no he
        have e2 : (fs.toList != t.toList) = true := by simp [bne, e1]
        have HF : Hid (Parsed t ps [] 2) := Lib.hid (.inl ⟨rfl, rfl, .inr ⟨dl, HI.out.len, HI.out.read, by rw [hfs]; exact he⟩⟩)
        clear he hfs
        go_wp2_with (go_at_call 27; refine FO.out.mono ?_; rintro e w8 ⟨rfl, hb8⟩; have B8 := Lib.hid (BR.out.trans (hb8.mono BR.out.size)); clear hb8)
        go_ret2
        exact ⟨[], 2, RowPost.nil rfl rfl B8.out, HF.out⟩

end Go.Proofs.YtladjkkkhomngaaDoor
