/- Format of both packages. -/
import Derived.Test.YtnebjdjebnphnaaDoorIa
import Derived.Lib.Join
namespace Go.Proofs.YtnebjdjebnphnaaDoor
set_option maxRecDepth 8000
open Go.RowKit Go.BigFrame

/-- The names behind the first, each behind a comma. -/
def catN : List Int → ByteArray
  | [] => ⟨#[]⟩
  | x :: r => (⟨#[44]⟩ ++ nameB x) ++ catN r
theorem app_empty (a : ByteArray) : a ++ ⟨#[]⟩ = a := by
  apply ByteArray.ext
  simp
theorem catN_snoc : ∀ (l : List Int) (x : Int), catN (l ++ [x]) = catN l ++ (⟨#[44]⟩ ++ nameB x)
  | [], x => by
    apply ByteArray.ext
    simp [catN]
  | y :: r, x => by
    rw [List.cons_append, catN, catN, catN_snoc r x]
    apply ByteArray.ext
    simp
/-- The text of codes. -/
def fmtB (n : Int) (l : List Int) : ByteArray := if validC n l = true then nameB n ++ catN l else ⟨#[]⟩
theorem name_size (x : Int) : (nameB x).size ≤ 5 := by
  unfold nameB
  repeat' split
  all_goals decide
theorem catN_size : ∀ l : List Int, (catN l).size ≤ l.length * 6
  | [] => Nat.le_refl _
  | x :: r => by
    have h1 := catN_size r
    have h2 := name_size x
    rw [catN, ByteArray.size_append, ByteArray.size_append, List.length_cons]
    have h3 : (⟨#[44]⟩ : ByteArray).size = 1 := rfl
    omega
theorem cat_tail : ∀ l : List Int, (catN l).data.toList = Lib.joinTail [44] ((l.map nameB).map (·.data.toList))
  | [] => rfl
  | x :: r => by
    rw [catN]
    simp [cat_tail r, Lib.joinTail]
theorem fmt_join (n : Int) (l : List Int) : (⟨(Lib.join ((nameB n :: l.map nameB).map (·.data.toList)) [44]).toArray⟩ : ByteArray) = nameB n ++ catN l := by
  apply ByteArray.ext
  apply Array.toList_inj.1
  rw [List.map_cons, Lib.join_cons, ← cat_tail]
  simp
theorem join_size (n : Int) (l : List Int) : (Lib.join ((nameB n :: l.map nameB).map (·.data.toList)) [44]).length ≤ 5 + l.length * 6 := by
  have h := congrArg ByteArray.size (fmt_join n l)
  have h1 := name_size n
  have h2 := catN_size l
  rw [ByteArray.size_append] at h
  have h3 : (⟨(Lib.join ((nameB n :: l.map nameB).map (·.data.toList)) [44]).toArray⟩ : ByteArray).size = (Lib.join ((nameB n :: l.map nameB).map (·.data.toList)) [44]).length := rfl
  omega
theorem validC_parts {n : Int} {l : List Int} (h : validC n l = true) : isSetB n = true ∧ l.length ≤ 5 ∧ okTo n l l.length = true := by
  unfold validC at h
  simp only [Bool.and_eq_true, decide_eq_true_eq] at h
  exact ⟨h.1.1, h.1.2, h.2⟩
theorem okTo_at {n : Int} {l : List Int} : ∀ m, okTo n l m = true → ∀ k, k < m → okAtI n l k = true
  | 0, _, k, hk => absurd hk (Nat.not_lt_zero _)
  | m + 1, h, k, hk => by
    rw [okTo, Bool.and_eq_true] at h
    by_cases e : k = m
    · subst e; exact h.2
    · exact okTo_at m h.1 k (by omega)
theorem validC_at {n : Int} {l : List Int} (h : validC n l = true) {k : Nat} {x : Int} (hx : l[k]? = some x) : isSetB x = true := by
  have h1 := okTo_at _ (validC_parts h).2.2 k (List.getElem?_eq_some_iff.1 hx).1
  rw [okAtI_at hx, Bool.and_eq_true, Bool.and_eq_true] at h1
  exact h1.1.1
theorem isSet_nat {x : Int} (h : isSetB x = true) : ∃ k : Nat, x = (k : Int) ∧ 1 ≤ k ∧ k ≤ 5 := by
  unfold isSetB at h
  simp only [Bool.and_eq_true, decide_eq_true_eq] at h
  exact ⟨x.toNat, by omega, by omega, by omega⟩

theorem info9 : (Tryd.prog.info? 9).map (fun i => (i.zero, i.size, i.bytes)) = some (some (.string ⟨#[]⟩), 1, 16) := by kernel_rfl
theorem under46 : Tryd.prog.underlying 46 = some (.slice 9) := by kernel_rfl
/-- The codes' box and the names so far. -/
structure FmI (w : World) (n : Int) (ao : Option Addr) (k cap : Nat) (sv : Value) (xs : List ByteArray) (wr : World) : Prop where
  bx : CoI w n ao k cap w.heap.size wr
  own : wr.ownsRow (w.heap.size + 1) 9 1 sv xs.length (xs.map Value.string)
  names : NamesAt wr
theorem FmI.grown {w wr wx : World} {n : Int} {ao : Option Addr} {k cap : Nat} {sv v' : Value} {xs : List ByteArray} {o : Obj} {x : ByteArray} (h : FmI w n ao k cap sv xs wr) (h0 : 0 < w.heap.size) (hg : (wr.alloc o).grownBy wx sv.ownBlock) (ho : wx.ownsRow (w.heap.size + 1) 9 1 v' (xs.length + 1) (xs.map Value.string ++ [.string x])) : FmI w n ao k cap v' (xs ++ [x]) wx := by
  have hg := grown_alloc hg
  have hne : ∀ k, k < w.heap.size + 1 → some k ≠ sv.ownBlock := fun k hk e => by have := (h.own.lt k e.symm).1; omega
  have hb := h.bx
  refine ⟨⟨hg.cell hb.nat (hne _ (by simp only; omega)), hg.cell hb.oth (hne _ (by simp only; omega)), hb.new, Nat.lt_of_lt_of_le hb.lt hg.size, ⟨hg.os.trans hb.below.os, hg.tape.trans hb.below.tape, hg.output.trans hb.below.output, Nat.le_trans hb.below.size hg.size, fun k hk => (hg.block k (Nat.lt_of_lt_of_le hk hb.below.size) fun e => hne k (by omega) e).trans (hb.below.block k hk)⟩⟩, ?_, ⟨Nat.lt_of_lt_of_le h.names.1 hg.size, fun k hk => hg.cell (h.names.2 k hk) (hne _ (by simp only; omega))⟩⟩
  rw [List.length_append, List.length_singleton, List.map_append]
  exact ho
theorem own_form9 {W : World} {base n : Nat} {sv : Value} {xs : List Value} (h : W.ownsRow base 9 1 sv n xs) : ∃ a c, sv = .slice a n c := by
  rcases h.2 with ⟨rfl, rfl⟩ | ⟨g, cap, _, rfl, _⟩
  · exact ⟨none, 0, rfl⟩
  · exact ⟨some ⟨g, 0, none⟩, cap, rfl⟩
theorem cell_one_new {W : World} {b : Nat} {x : Value} {t : TypeId} (h : W.heap[b]? = some (.cells #[x] t (0, 0))) : ∀ (j : Nat) (u : Value), [x][j]? = some u → W.cell? ((⟨b, 0, none⟩ : Addr).add j) = some u := by
  intro j u hu
  rw [add_none, cells_at h]
  rw [← hu]
  simp
theorem join_any {w wr : World} {n : Int} {ao : Option Addr} {k cap : Nat} {sv : Value} {l : List Int} (h : FmI w n ao k cap sv (nameB n :: l.map nameB) wr) (hl : l.length ≤ 5) :
    Calls Tryd.prog 39 #[sv, .string ⟨#[44]⟩] wr fun e w' => e = .returned (.string (nameB n ++ catN l)) ∧ Below wr.heap.size wr w' := by
  rcases h.own.2 with ⟨_, h0⟩ | ⟨g, cap, cur, rfl, _, hg, hc, _⟩
  · simp at h0
  · have hs := join_size n l
    have := Tryd.strings_Join g 0 cap (nameB n :: l.map nameB) ⟨#[44]⟩ wr (fun j x hx => by
      have := h.own.cells (g := g) rfl j (.string x) (by rw [List.getElem?_map, hx]; rfl)
      rw [add_none] at this
      exact this) (blk_lt hg) (by simp; omega) hc (by show (Lib.join ((nameB n :: l.map nameB).map (·.data.toList)) [44]).length ≤ _; omega)
    refine this.mono ?_
    rintro e w' ⟨rfl, hb⟩
    exact ⟨by show Ending.returned (.string ⟨(Lib.join ((nameB n :: l.map nameB).map (·.data.toList)) [44]).toArray⟩) = _; rw [fmt_join], hb⟩
theorem cons_snoc (a : ByteArray) (l : List Int) (x : Int) : a :: (l ++ [x]).map nameB = (a :: l.map nameB) ++ [nameB x] := by simp

set_option maxRecDepth 100000 in
set_option maxHeartbeats 8000000 in
theorem format_any (n : Int) (ao : Option Addr) (cap : Nat) (l : List Int) (w : World) (hE : Env w) (h : IntRow w ao l) (hc : l.length ≤ cap) :
    Calls Tryd.prog 20 #[.agg #[.int .i64 n, .slice ao l.length cap]] w fun e w' => e = .returned (.string (fmtB n l)) ∧ Below w.heap.size w w' := by
  have HR := Lib.hid h
  have VA := Lib.hid fun wx (hx : Below w.heap.size w wx) => valid_any n ao cap l wx (h.below hx) hc
  have HX := Lib.hid (CoI.start (w := w) (n := n) (ao := ao) (k := l.length) (cap := cap) rfl)
  have HE := Lib.hid fun wx (hx : Below w.heap.size w wx) => (hE.below hx).names
  have HW0 := Lib.hid hE.names.1
  have p0 := True.intro
  have p1 := True.intro
  obtain ⟨i0, hi0, hz0, hz1, hz2⟩ := info_parts info9
  clear h hc hE
  cases hv : validC n l with
  | false =>
    have HF : Hid (fmtB n l = ⟨#[]⟩) := Lib.hid (by unfold fmtB; rw [hv]; rfl)
    rw [hv] at VA
    clear hv
    go_enter Tryd.func20, Tryd.ntmps20
    go_wp2_with (go_at_call 21; refine (VA.out _ HX.out.below).mono ?_; rintro e w1 ⟨rfl, hb⟩; replace HX := Lib.hid (HX.out.later hb); clear hb)
    go_ret
    exact ⟨by rw [HF.out]; rfl, HX.out.below⟩
  | true =>
    have HF : Hid (fmtB n l = nameB n ++ catN l) := Lib.hid (by unfold fmtB; rw [hv]; rfl)
    have HV := Lib.hid hv
    obtain ⟨n', rfl, hn1, hn5⟩ := isSet_nat (validC_parts hv).1
    have HL := Lib.hid (validC_parts hv).2.1
    have HN5 := Lib.hid hn5
    rw [hv] at VA
    clear hv
    go_enter Tryd.func20, Tryd.ntmps20
    go_wp2_with (go_at_call 21; refine (VA.out _ HX.out.below).mono ?_; rintro e w1 ⟨rfl, hb⟩; replace HX := Lib.hid (HX.out.later hb); clear hb; have p0 := HX.out.nat; have p1 := HX.out.oth; have c0 := (HE.out _ HX.out.below).2 n' (by have := HN5.out; omega); have g0 : (0 : Int) ≤ (n' : Int) := (by omega); have g1 : (n' : Int) < 6 := (by have := HN5.out; omega); have p2 : ∀ o, (w1.alloc o).cell? ⟨w.heap.size, 1, none⟩ = some (.slice ao l.length cap) := (fun o => (HX.out.later ((Below.refl _ _).alloc (Nat.le_refl _) o)).oth))
    go_loopw [3, 17] (fun v i wr => ∃ k : Nat, i = .int .i64 k ∧ k ≤ l.length ∧ FmI w n' ao l.length cap v (nameB n' :: (l.take k).map nameB) wr) (fun _ i _ => l.length - (intOf i).toNat)
    case atStart =>
      refine ⟨0, rfl, Nat.zero_le _, HX.out.later ((Below.refl _ _).alloc (Nat.le_refl _) _), ⟨rfl, .inr ⟨w1.heap.size, 1, _, rfl, ?_, World.alloc_heap_new _ _, Nat.le_refl _, by decide, rfl, rfl⟩⟩, ?_⟩
      · have := HX.out.lt; omega
      · exact HE.out _ (HX.out.below.alloc HX.out.below.size _)
    case round =>
      clear p0 p1 p2 c0 g0 g1 HX
      obtain ⟨k, rfl, hk, hf⟩ := hrel
      have p0 := hf.bx.nat
      have p1 := hf.bx.oth
      have HM := Lib.hid hf
      clear hf
      by_cases hlt : k < l.length
      · rcases HR.out with h0 | ⟨b, off, rfl, hb, hp⟩
        · subst h0; exact absurd hlt (by simp)
        obtain ⟨x, hx⟩ : ∃ x, l[k]? = some x := ⟨_, List.getElem?_eq_getElem hlt⟩
        have d0 : wr.cell? ⟨b, off + k, none⟩ = some (.int .i64 x) := by rw [List.getElem?_eq_getElem hlt] at hx; cases hx; exact (hp.below HM.out.bx.below hb) k hlt
        obtain ⟨x', rfl, hx1, hx5⟩ := isSet_nat (validC_at HV.out hx)
        have c0 := HM.out.names.2 x' (by omega)
        have g0 : (0 : Int) ≤ (x' : Int) := by omega
        have g1 : (x' : Int) < 6 := by omega
        have hk1 : (k : Int) < (l.length : Int) := by omega
        have hk2 : (k : Int) + 1 ≤ 10 := by have := HL.out; omega
        have hk0 : (0 : Int) ≤ (k : Int) := by omega
        have HTK : Hid (nameB n' :: (l.take (k + 1)).map nameB = (nameB n' :: (l.take k).map nameB) ++ [nameB x']) := Lib.hid (by
          rw [List.take_succ_eq_append_getElem hlt]
          rw [List.getElem?_eq_getElem hlt] at hx
          rw [Option.some.inj hx, cons_snoc])
        have HLT := Lib.hid hlt
        have HLN : Hid ((nameB n' :: (l.take k).map nameB).length ≤ 10) := Lib.hid (by simp; have := HL.out; omega)
        obtain ⟨xs, hxs⟩ : ∃ xs, nameB n' :: (l.take k).map nameB = xs := ⟨_, rfl⟩
        rw [hxs] at HM HTK HLN
        obtain ⟨nm, hnm⟩ : ∃ nm, nameB (x' : Int) = nm := ⟨_, rfl⟩
        rw [hnm] at c0 HTK
        clear hx hp hxs hnm hx1 hx5
        go_wp2_with (at_builtin; refine wpList_append_own_at _ rfl _ _ 46 rfl (w.heap.size + 1) 9 i0 (.string ⟨#[]⟩) 1 16 under46 hi0 hz0 hz1 hz2 rfl (by decide) _ _ _ rfl (HM.out.own.alloc _) ⟨wr.heap.size, 0, none⟩ 1 1 [.string nm] rfl (by simp) (cell_one_new (World.alloc_heap_new _ _)) (by simp [Value.oneCell']) (by have := HLN.out; unfold maxLen; omega) (by have := HLN.out; omega) (by have := HM.out.bx.lt; simp; omega) ?_; intro v' w3 hown' hgrow _ _; obtain ⟨av, cv, rfl⟩ := own_form9 hown'; have HM3 := Lib.hid (HM.out.grown HW0.out hgrow hown'); clear hown' hgrow p0 p1 c0)
        exact ⟨⟨k + 1, by go_num, HLT.out, by rw [HTK.out]; exact HM3.out⟩, by simp [intOf]; have := HLT.out; omega⟩
      · obtain rfl : k = l.length := by omega
        rw [List.take_length] at HM
        have JO := Lib.hid (join_any HM.out HL.out)
        go_wp2_with (go_at_call 39; refine JO.out.mono ?_; rintro e w3 ⟨rfl, hb⟩; have HB3 := Lib.hid (BB_trans HM.out.bx.below hb); clear hb)
        go_ret
        exact ⟨by rw [HF.out]; rfl, HB3.out⟩

set_option maxRecDepth 100000 in
set_option maxHeartbeats 8000000 in
theorem rformat_any (n : Int) (ao : Option Addr) (cap : Nat) (l : List Int) (w : World) (h : IntRow w ao l) (hc : l.length ≤ cap) :
    Calls Tryd.prog 23 #[.agg #[.int .i64 n, .slice ao l.length cap]] w fun e w' => e = .returned (.string (fmtB n l)) ∧ Below w.heap.size w w' := by
  have HR := Lib.hid h
  have VA := Lib.hid fun wx (hx : Below w.heap.size w wx) => rvalid_any n ao cap l wx (h.below hx) hc
  have HX := Lib.hid (CoI.start (w := w) (n := n) (ao := ao) (k := l.length) (cap := cap) rfl)
  have p0 := True.intro
  have p1 := True.intro
  clear h hc
  cases hv : validC n l with
  | false =>
    have HF : Hid (fmtB n l = ⟨#[]⟩) := Lib.hid (by unfold fmtB; rw [hv]; rfl)
    rw [hv] at VA
    clear hv
    go_enter Tryd.func23, Tryd.ntmps23
    go_wp2_with (go_at_call 22; refine (VA.out _ HX.out.below).mono ?_; rintro e w1 ⟨rfl, hb⟩; replace HX := Lib.hid (HX.out.later hb); clear hb)
    go_ret
    exact ⟨by rw [HF.out]; rfl, HX.out.below⟩
  | true =>
    have HF : Hid (fmtB n l = nameB n ++ catN l) := Lib.hid (by unfold fmtB; rw [hv]; rfl)
    have HL := Lib.hid (validC_parts hv).2.1
    have RN := Lib.hid rname_any
    rw [hv] at VA
    clear hv
    go_enter Tryd.func23, Tryd.ntmps23
    go_wp2_with (first
      | (go_at_call 22; refine (VA.out _ HX.out.below).mono ?_; rintro e w1 ⟨rfl, hb⟩; replace HX := Lib.hid (HX.out.later hb); clear hb; have p0 := HX.out.nat; have p1 := HX.out.oth)
      | (go_at_call 14; refine (RN.out _ _).mono ?_; rintro e w2 ⟨rfl, rfl⟩))
    go_loopw [3, 15] (fun v i wr => ∃ k : Nat, i = .int .i64 k ∧ k ≤ l.length ∧ CoI w n ao l.length cap w.heap.size wr ∧ v = .string (nameB n ++ catN (l.take k))) (fun _ i _ => l.length - (intOf i).toNat)
    case atStart => exact ⟨0, rfl, Nat.zero_le _, HX.out, by rw [List.take_zero, catN, app_empty]⟩
    case round =>
      clear p0 p1 HX
      obtain ⟨k, rfl, hk, hf, rfl⟩ := hrel
      have p0 := hf.nat
      have p1 := hf.oth
      have HM := Lib.hid hf
      clear hf
      by_cases hlt : k < l.length
      · rcases HR.out with h0 | ⟨b, off, rfl, hb, hp⟩
        · subst h0; exact absurd hlt (by simp)
        obtain ⟨x, hx⟩ : ∃ x, l[k]? = some x := ⟨_, List.getElem?_eq_getElem hlt⟩
        have d0 : wr.cell? ⟨b, off + k, none⟩ = some (.int .i64 x) := by rw [List.getElem?_eq_getElem hlt] at hx; cases hx; exact (hp.below HM.out.below hb) k hlt
        have hk1 : (k : Int) < (l.length : Int) := by omega
        have hk2 : (k : Int) + 1 ≤ 10 := by have := HL.out; omega
        have hk0 : (0 : Int) ≤ (k : Int) := by omega
        have HTK : Hid (nameB n ++ catN (l.take (k + 1)) = (nameB n ++ catN (l.take k)) ++ (⟨#[44]⟩ ++ nameB x)) := Lib.hid (by
          rw [List.take_succ_eq_append_getElem hlt]
          rw [List.getElem?_eq_getElem hlt] at hx
          rw [Option.some.inj hx, catN_snoc]
          apply ByteArray.ext
          simp)
        have HLT := Lib.hid hlt
        have s1 := name_size n
        have s2 := catN_size (l.take k)
        have s3 := name_size x
        have s4 : (nameB n ++ catN (l.take k)).size ≤ 100 := by rw [ByteArray.size_append]; rw [List.length_take] at s2; have := HL.out; omega
        obtain ⟨out, hout⟩ : ∃ out, nameB n ++ catN (l.take k) = out := ⟨_, rfl⟩
        obtain ⟨nm, hnm⟩ : ∃ nm, nameB x = nm := ⟨_, rfl⟩
        rw [hout] at HTK s4
        have RN1 := Lib.hid (RN.out x)
        rw [hnm] at HTK s3 RN1
        have t1 : ¬ 9223372036854775807 < (⟨#[44]⟩ : ByteArray).size + nm.size := by have : (⟨#[44]⟩ : ByteArray).size = 1 := rfl; omega
        have t2 : ¬ 9223372036854775807 < out.size + (⟨#[44]⟩ ++ nm : ByteArray).size := by rw [ByteArray.size_append]; have : (⟨#[44]⟩ : ByteArray).size = 1 := rfl; omega
        rw [hout]
        clear hx hp hout hnm s1 s2 s3 s4
        go_wp2_with (go_at_call 14; refine (RN1.out _).mono ?_; rintro e w2 ⟨rfl, rfl⟩)
        exact ⟨⟨k + 1, by go_num, HLT.out, HM.out, by rw [HTK.out]⟩, by simp [intOf]; have := HLT.out; omega⟩
      · obtain rfl : k = l.length := by omega
        go_wp2_with fail
        go_ret
        exact ⟨by rw [HF.out, List.take_length]; rfl, HM.out.below⟩

end Go.Proofs.YtnebjdjebnphnaaDoor
