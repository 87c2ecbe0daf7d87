/- The contract of policy.Format. -/
import Derived.Test.YtladjkkkhomngaaDoorPb
import Derived.Deep.RegionHeld3
import Derived.Lib.ItoaLen
import Derived.Laws.Concat
import Derived.Deep.AppendLies
import Derived.Test.YtladjkkkhomngaaDoorTg
namespace Go.Proofs.YtladjkkkhomngaaDoor
set_option maxRecDepth 8000
open Go.RowKit Go.Sort Go.BigFrame

/-- The text of a set; nothing where it is none. -/
noncomputable def fmtS (l : List PolD) : ByteArray := if okS l = true then ⟨(Lib.join (l.map fun p => (textP p).data.toList) [44, 32]).toArray⟩ else ⟨#[]⟩

theorem Tryd.infoStr : (Tryd.prog.info? 9).map (fun i => (i.zero, i.size, i.bytes)) = some (some (.string ⟨#[]⟩), 1, 16) := by kernel_rfl
theorem under63 : Tryd.prog.underlying 63 = some (.slice 9) := by kernel_rfl
theorem name_size (n : Nat) (h1 : 1 ≤ n) (h2 : n ≤ 13) : ∀ j, j < 5 → ((wordsN n).getD j ⟨#[]⟩).size ≤ 21 := by
  have hh : n = 1 ∨ n = 2 ∨ n = 3 ∨ n = 4 ∨ n = 5 ∨ n = 6 ∨ n = 7 ∨ n = 8 ∨ n = 9 ∨ n = 10 ∨ n = 11 ∨ n = 12 ∨ n = 13 := by omega
  rcases hh with rfl | rfl | rfl | rfl | rfl | rfl | rfl | rfl | rfl | rfl | rfl | rfl | rfl <;> decide
theorem wordP_size (k v : Int) (h : okP k v = true) : (wordP ⟨k, v⟩).size ≤ 21 := by
  simp only [okP, isK, Bool.and_eq_true, decide_eq_true_eq] at h
  obtain ⟨⟨⟨h1, h2⟩, h3⟩, h4⟩ := h
  have hm : v ≤ 1000000 := by unfold mostV at h4; split at h4 <;> (try split at h4) <;> (try split at h4) <;> (try split at h4) <;> omega
  have h0 : 0 ≤ v := by unfold defV at h3; split at h3 <;> omega
  unfold wordP
  simp only
  split
  · have := Lib.itoa_length_le v (by omega) (by omega)
    simpa [ByteArray.size] using this
  · rename_i hd
    have hne : ¬ (k = 10 ∨ k = 12) := fun g => hd (by unfold defV; rw [if_pos g])
    have h6 : v ≤ 4 := by unfold mostV at h4; rw [if_neg (by omega), if_neg (by omega)] at h4; split at h4 <;> (try split at h4) <;> omega
    exact name_size k.toNat (by omega) (by omega) v.toNat (by omega)

theorem textP_size (p : PolD) (h : okP p.k p.v = true) : (textP p).size ≤ 50 := by
  have h1 := wordP_size p.k p.v h
  simp only [okP, isK, Bool.and_eq_true, decide_eq_true_eq] at h
  have h2 := name_size p.k.toNat (by omega) (by omega) 0 (by omega)
  unfold textP wordsL
  rw [ByteArray.size_append, ByteArray.size_append]
  have h3 : (⟨#[32]⟩ : ByteArray).size = 1 := rfl
  have h4 : (wordP p).size ≤ 21 := h1
  omega
theorem join_len : ∀ xs : List (List UInt8), (∀ x ∈ xs, x.length ≤ 50) → (Lib.join xs [44, 32]).length ≤ 52 * xs.length
  | [], _ => by simp [Lib.join, List.intercalate]
  | [x], h => by
    have := h x (by simp)
    simp [Lib.join, List.intercalate]
    omega
  | x :: y :: r, h => by
    have h1 := h x (by simp)
    have ih := join_len (y :: r) (fun z hz => h z (by simp [hz]))
    have e : Lib.join (x :: y :: r) [44, 32] = x ++ [44, 32] ++ Lib.join (y :: r) [44, 32] := by simp [Lib.join, List.intercalate, List.intersperse]
    rw [e]
    simp only [List.length_append, List.length_cons, List.length_nil] at ih ⊢
    omega
theorem grown_cell {W W' : World} {row : Option Nat} (hg : W.grownBy W' row) {p : Addr} {v : Value} (h : W.cell? p = some v) (hne : row ≠ some p.block) : W'.cell? p = some v := by
  have hlt := World.block_lt_of_cell? W _ h
  unfold World.cell? at h ⊢
  rw [hg.block p.block hlt (fun e => hne e.symm)]
  exact h
/-- The texts of the first k policies as cells. -/
def txtCells (l : List PolD) (k : Nat) : List Value := (l.take k).map fun p => .string (textP p)
theorem txtCells_succ {l : List PolD} {k : Nat} (h : k < l.length) : txtCells l (k + 1) = txtCells l k ++ [.string (textP l[k])] := by
  unfold txtCells
  rw [List.take_succ_eq_append_getElem h, List.map_append]
  rfl
/-- What a round of Format knows. -/
structure StI (w wr : World) (l : List PolD) (k : Nat) (sv : Value) : Prop where
  own : wr.ownsRow w.heap.size 9 1 sv k (txtCells l k)
  below : Below w.heap.size w wr
theorem StI.later {w wr wx : World} {l : List PolD} {k : Nat} {sv : Value} (h : StI w wr l k sv) (hb : Below wr.heap.size wr wx) : StI w wx l k sv :=
  ⟨ownsRow_below h.own hb, h.below.trans (hb.mono h.below.size)⟩
theorem StI.grown {w wr wx : World} {l : List PolD} {k : Nat} {sv sv' : Value} {x : ByteArray} (h : StI w wr l k sv) (hg : wr.grownBy wx sv.ownBlock) (ho : wx.ownsRow w.heap.size 9 1 sv' (k + 1) (txtCells l k ++ [.string x]))
    (hk : k < l.length) (hx : x = textP l[k]) : StI w wx l (k + 1) sv' := by
  subst hx
  refine ⟨by rw [txtCells_succ hk]; exact ho, ?_⟩
  refine ⟨hg.os.trans h.below.os, hg.tape.trans h.below.tape, hg.output.trans h.below.output, Nat.le_trans h.below.size hg.size, fun j hj => (hg.block j (Nat.lt_of_lt_of_le hj h.below.size) fun e => ?_).trans (h.below.block j hj)⟩
  have := (h.own.lt j e.symm).1
  omega
theorem cell_str_new {W : World} {b : Nat} {x : Value} (h : W.heap[b]? = some (.cells #[x] 9 (0, 0))) : ∀ (j : Nat) (u : Value), [x][j]? = some u → W.cell? ((⟨b, 0, none⟩ : Addr).add j) = some u := by
  intro j u hu
  match j, hu with
  | 0, hu =>
    obtain rfl : x = u := by simpa using hu
    exact cells_at h 0

set_option maxRecDepth 100000 in
set_option maxHeartbeats 8000000 in
theorem format_any (d : SlD) (w : World) (h : TxtEnv w) (hd : d.Ok w) (hl : d.l.length ≤ 1000) :
    Calls Tryd.prog 27 #[.slice d.a d.l.length d.c] w fun e w' => e = .returned (.string (fmtS d.l)) ∧ Below w.heap.size w w' := by
  obtain ⟨ao, l, cap⟩ := d
  simp only at hl ⊢
  have VS := Lib.hid (validSet_any ao cap l w h.sorts hd.row (by omega))
  cases hr : okS l
  · rw [hr] at VS
    have HF : Hid (fmtS l = ⟨#[]⟩) := Lib.hid (by unfold fmtS; rw [if_neg (by rw [hr]; decide)])
    rw [HF.out]
    clear h hd hl hr
    go_enter Tryd.func27, Tryd.ntmps27
    go_wp2_with (go_at_call 13; refine VS.out.mono ?_; rintro e w1 ⟨rfl, hb1⟩; have B1 := Lib.hid hb1; clear hb1)
    go_ret
    exact ⟨rfl, B1.out⟩
  · rw [hr] at VS
    have HO := Lib.hid hr
    have HE := Lib.hid h
    have HRO : Hid (RowAt w ao l) := Lib.hid hd.row
    have HL := Lib.hid hl
    clear h hd hl hr
    go_enter Tryd.func27, Tryd.ntmps27
    go_wp2_with (go_at_call 13; refine VS.out.mono ?_; rintro e w1 ⟨rfl, hb1⟩; have B1 := Lib.hid hb1; clear hb1)
    go_loopw [3, 11] (fun v i wr => ∃ k : Nat, i = .int .i64 k ∧ k ≤ l.length ∧ StI w1 wr l k v) (fun _ i _ => l.length - (intOf i).toNat)
    case atStart => exact ⟨0, rfl, Nat.zero_le _, World.ownsRow_nil _ _ _ _, Below.refl _ _⟩
    case round =>
      obtain ⟨k, rfl, hk, hinv⟩ := hrel
      have HI := Lib.hid hinv
      clear hinv
      by_cases hlt : k < l.length
      · rcases HRO.out.below B1.out with h0 | ⟨b, off, h1, hb, hp⟩
        · subst h0; exact absurd hlt (by simp)
        subst h1
        obtain ⟨c0, c1⟩ := (hp.below HI.out.below hb) k hlt
        have hv := okS_val HO.out l[k] (List.getElem_mem hlt)
        have hki : isK l[k].k = true := by simp only [okP, Bool.and_eq_true] at hv; exact hv.1.1
        obtain ⟨n, hkk⟩ : ∃ n : Nat, l[k].k = n := ⟨l[k].k.toNat, by simp only [isK, Bool.and_eq_true, decide_eq_true_eq] at hki; omega⟩
        obtain ⟨vv, hvv⟩ : ∃ vv, l[k].v = vv := ⟨_, rfl⟩
        rw [hkk] at c0 hv hki
        rw [hvv] at c1 hv
        simp only [isK, Bool.and_eq_true, decide_eq_true_eq] at hki
        have HPE : Hid (l[k] = (⟨n, vv⟩ : PolD)) := Lib.hid (PolD.ext' hkk hvv)
        have hb1 : Below wr.heap.size wr (wr.alloc (polO n vv)) := (Below.refl _ _).alloc (Nat.le_refl _) _
        have HI1 := Lib.hid (HI.out.later hb1)
        have HE1 := Lib.hid fun wx (hx : Below w1.heap.size w1 wx) => (HE.out.below B1.out).below hx
        have WD := Lib.hid fun wx (hx : Below w1.heap.size w1 wx) => word_any n vv wx (HE1.out wx hx) hv
        obtain ⟨wd, hwd⟩ : ∃ wd, wordP ⟨n, vv⟩ = wd := ⟨_, rfl⟩
        rw [hwd] at WD
        have ht := (HE1.out _ HI1.out.below).text n (by omega) (by omega) 0 (by omega)
        obtain ⟨nm, hnm⟩ : ∃ nm, (wordsN n).getD 0 (⟨#[]⟩ : ByteArray) = nm := ⟨_, rfl⟩
        rw [hnm, Nat.add_zero] at ht
        have HT := Lib.hid ht
        have hs1 : nm.size ≤ 21 := by rw [← hnm]; exact name_size n (by omega) (by omega) 0 (by omega)
        have hs2 : wd.size ≤ 21 := by rw [← hwd]; exact wordP_size _ _ hv
        obtain ⟨ns, hns⟩ : ∃ ns, nm ++ (⟨#[32]⟩ : ByteArray) = ns := ⟨_, rfl⟩
        obtain ⟨tx, htx⟩ : ∃ tx, ns ++ wd = tx := ⟨_, rfl⟩
        have hs3 : ns.size ≤ 22 := by rw [← hns, ByteArray.size_append]; have : (⟨#[32]⟩ : ByteArray).size = 1 := rfl; omega
        have hc1 : ∀ W : World, (binOp .add 9 (.string nm) (.string ⟨#[32]⟩)).run Tryd.prog W = .ok (.string ns) W := fun W => by rw [binOp_string_add, run_string_add_sum W _ _ (by have : (⟨#[32]⟩ : ByteArray).size = 1 := rfl; omega), hns]
        have hc2 : ∀ W : World, (binOp .add 9 (.string ns) (.string wd)).run Tryd.prog W = .ok (.string tx) W := fun W => by rw [binOp_string_add, run_string_add_sum W _ _ (by omega), htx]
        have hc3 : ∀ W : World, (Op.stringOp .add nm ⟨#[32]⟩).run Tryd.prog W = .ok (.string ns) W := fun W => by rw [run_string_add_sum W _ _ (by have : (⟨#[32]⟩ : ByteArray).size = 1 := rfl; omega), hns]
        have hc4 : ∀ W : World, (Op.stringOp .add ns wd).run Tryd.prog W = .ok (.string tx) W := fun W => by rw [run_string_add_sum W _ _ (by omega), htx]
        have HTX : Hid (tx = textP l[k]) := Lib.hid (by rw [HPE.out, ← htx, ← hns, ← hnm, ← hwd]; rfl)
        have HX : Hid (nm ++ ⟨#[32]⟩ ++ wd = textP l[k]) := Lib.hid (by rw [HPE.out, ← hnm, ← hwd]; rfl)
        have hk1 : (k : Int) < (l.length : Int) := by omega
        have hk2 : (k : Int) + 1 ≤ 9223372036854775807 := by have := HL.out; omega
        have g3 : (0 : Int) ≤ (n : Int) := by omega
        have g4 : (n : Int) < 14 := by omega
        have n0 := polO_c0 n vv wr
        have n1 := polO_c1 n vv wr
        have hpos : Hid (0 < (wr.alloc (polO n vv)).heap.size) := Lib.hid (HE1.out _ HI1.out.below).sorts.pos
        have HKL : Hid (k ≤ 1000) := Lib.hid (by have := HL.out; omega)
        obtain ⟨i0, hi, hz0, hz1, hz2⟩ := info_parts Tryd.infoStr
        clear hkk hvv hp hb1 hwd hnm hv hki hs1 hs2 hs3 hns htx
        have HF0 : Hid (u3.ownBlock ≠ some 0) := Lib.hid fun e => by have := (HI.out.own.lt 0 e).1; have := hpos.out; have := B1.out.size; have := (HE.out.sorts.pos); omega
        have HF1 : Hid (u3.ownBlock ≠ some wr.heap.size) := Lib.hid fun e => by have := (HI.out.own.lt _ e).2; omega
        go_wp2_with fail
        go_region_held3 (fun w' => w'.cell? ⟨wr.heap.size, 0, none⟩ = some (.int .i64 n) ∧ w'.cell? ⟨wr.heap.size, 1, none⟩ = some (.int .i64 vv) ∧ w'.cell? ⟨0, n * 6, none⟩ = some (.string nm)) (first | (refine ⟨?_, ?_, ?_⟩ <;> assumption) | go_keep) (first | (go_at_call 54; refine (WD.out _ ?_).mono ?_; exact ⟨HI1.out.below.os, HI1.out.below.tape, HI1.out.below.output, HI1.out.below.size, HI1.out.below.block⟩; rintro e w2 ⟨rfl, hb2⟩; have hb3 : Below (wr.alloc (polO n vv)).heap.size (wr.alloc (polO n vv)) w2 := ⟨hb2.os, hb2.tape, hb2.output, hb2.size, hb2.block⟩; have q0 := (hb3.cell (p := ⟨wr.heap.size, 0, none⟩) (by simp)).trans (polO_c0 n vv wr); have q1 := (hb3.cell (p := ⟨wr.heap.size, 1, none⟩) (by simp)).trans (polO_c1 n vv wr); have qt := (hb3.cell (p := ⟨0, n * 6, none⟩) hpos.out).trans HT.out; have HI2 := Lib.hid (HI1.out.later hb3); clear hb2 hb3) | (refine step_append_lies _ (by rfl) _ _ 63 (by rfl) w1.heap.size 9 i0 (.string ⟨#[]⟩) 1 16 under63 hi hz0 hz1 hz2 (by rfl) (by decide) u3 k (txtCells l k) (by rfl) (by exact HI2.out.own.alloc (Obj.cells #[Value.string tx] 9)) ⟨w2.heap.size, 0, none⟩ 1 1 [.string tx] (by rfl) (by rfl) (by exact cell_str_new (heap_alloc_new w2 _)) (by simp [Value.oneCell']) (by decide) (by have := HKL.out; unfold maxLen; omega) (by have := HKL.out; omega) (by have := HI2.out.below.size; simp; omega) (w2.heap.size + 1) (by simp) ?_; intro g cap w3 hown hgrow hat hlt3; have hg3 : (w2.alloc (Obj.cells #[Value.string tx] 9)).grownBy w3 u3.ownBlock := ⟨hgrow.os, hgrow.tape, hgrow.output, hgrow.size, hgrow.block⟩; have r0 := grown_cell hg3 (cell_stays q0 ((Below.refl _ _).alloc (Nat.le_refl _) _)) HF1.out; have r1 := grown_cell hg3 (cell_stays q1 ((Below.refl _ _).alloc (Nat.le_refl _) _)) HF1.out; have rt := grown_cell hg3 (cell_stays qt ((Below.refl _ _).alloc (Nat.le_refl _) _)) HF0.out; have HI3 := Lib.hid (StI.grown (HI2.out.later ((Below.refl _ _).alloc (Nat.le_refl _) _)) hg3 hown hlt HTX.out); clear hown hgrow hat hlt3 hg3))
        go_wp2_with fail
        exact ⟨⟨k + 1, by go_num, hlt, HI3.out⟩, by simp [intOf]; omega⟩
      · obtain rfl : k = l.length := by omega
        rcases HI.out.own.2 with ⟨h1, h2⟩ | ⟨g, cap2, cur, h1, hb, hg, hc, hcm, hcs, hct⟩
        · subst h1
          have hl0 : l = [] := List.eq_nil_of_length_eq_zero h2
          have HF : Hid (fmtS l = ⟨#[]⟩) := Lib.hid (by unfold fmtS; rw [if_pos HO.out, hl0]; rfl)
          clear h2 hl0
          go_wp2_with (go_at_call 55; refine (Tryd.strings_Join_none none 0 _ _).mono ?_; rintro e w4 ⟨rfl, rfl⟩)
          go_ret
          exact ⟨by rw [HF.out]; rfl, B1.out.trans (HI.out.below.mono B1.out.size)⟩
        · subst h1
          have hlt2 : g < wr.heap.size := (Array.getElem?_eq_some_iff.1 hg).1
          have JO := Lib.hid (Tryd.strings_Join g 0 cap2 (l.map textP) ⟨#[44, 32]⟩ wr (fun j x hx => by
            rw [Nat.zero_add, cells_at hg j]
            rw [List.getElem?_map] at hx
            obtain ⟨p, hp, rfl⟩ := Option.map_eq_some_iff.1 hx
            have hjl : j < l.length := (List.getElem?_eq_some_iff.1 hp).1
            have e1 : (txtCells l l.length)[j]? = some (.string (textP p)) := by
              unfold txtCells
              rw [List.take_length, List.getElem?_map, hp]
              rfl
            rw [← hct, List.getElem?_take, if_pos (by omega), Array.getElem?_toList] at e1
            exact e1) hlt2 (by rw [List.length_map]; have := HL.out; omega) (by rw [List.length_map]; exact hc) (by
            have h1 := join_len ((l.map textP).map (·.data.toList)) (fun x hx => by
              obtain ⟨y, hy, rfl⟩ := List.mem_map.1 hx
              obtain ⟨p, hp, rfl⟩ := List.mem_map.1 hy
              have h2 : (textP p).data.size ≤ 50 := textP_size p (okS_val HO.out p hp)
              rw [Array.length_toList]
              exact h2)
            rw [List.length_map, List.length_map] at h1
            have := HL.out
            have h3 : (Lib.join ((l.map textP).map (·.data.toList)) [44, 32]).length ≤ 140737488355328 := by omega
            exact h3))
          rw [List.length_map] at JO
          have HF : Hid ((⟨(Lib.join ((l.map textP).map (·.data.toList)) (⟨#[44, 32]⟩ : ByteArray).data.toList).toArray⟩ : ByteArray) = fmtS l) := Lib.hid (by unfold fmtS; rw [if_pos HO.out, List.map_map]; rfl)
          rw [HF.out] at JO
          clear hb hg hc hcm hcs hct hlt2
          go_wp2_with (go_at_call 55; refine JO.out.mono ?_; rintro e w4 ⟨rfl, hb4⟩; have B4 := Lib.hid ((B1.out.trans (HI.out.below.mono B1.out.size)).trans (hb4.mono (Nat.le_trans B1.out.size HI.out.below.size))); clear hb4)
          go_ret
          exact ⟨rfl, B4.out⟩

end Go.Proofs.YtladjkkkhomngaaDoor
