/- The contracts of the closures that filter, and what is filtered. -/
import Derived.Test.YtladjkkkhomngaaDoorTg
namespace Go.Proofs.YtladjkkkhomngaaDoor
set_option maxRecDepth 8000
open Go.RowKit Go.Sort Go.BigFrame

/-- The first n policies, as asked. -/
def selTo (f : PolD → Bool) (l : List PolD) (n : Nat) : List PolD := (l.take n).filter f
theorem selTo_len (f : PolD → Bool) (l : List PolD) (n : Nat) : (selTo f l n).length ≤ n := by
  unfold selTo
  exact Nat.le_trans (List.length_filter_le _ _) (by rw [List.length_take]; omega)
theorem selTo_yes {f : PolD → Bool} {l : List PolD} {n : Nat} (h : n < l.length) (hp : f l[n] = true) : selTo f l (n + 1) = selTo f l n ++ [l[n]] := by
  unfold selTo
  rw [List.take_succ_eq_append_getElem h, List.filter_append]
  simp [hp]
theorem selTo_no {f : PolD → Bool} {l : List PolD} {n : Nat} (h : n < l.length) (hp : f l[n] = false) : selTo f l (n + 1) = selTo f l n := by
  unfold selTo
  rw [List.take_succ_eq_append_getElem h, List.filter_append]
  simp [hp]
theorem selTo_all (f : PolD → Bool) (l : List PolD) : selTo f l l.length = l.filter f := by unfold selTo; rw [List.take_length]

/-- What a round of kept knows. -/
structure SelI (f : PolD → Bool) (w wr : World) (l : List PolD) (k : Nat) (sv : Value) : Prop where
  own : wr.ownsRow w.heap.size 24 2 sv (selTo f l k).length (polCells (selTo f l k))
  below : Below w.heap.size w wr
theorem SelI.later {f : PolD → Bool} {w wr wx : World} {l : List PolD} {k : Nat} {sv : Value} (h : SelI f w wr l k sv) (hb : Below wr.heap.size wr wx) : SelI f w wx l k sv :=
  ⟨ownsRow_below h.own hb, h.below.trans (hb.mono h.below.size)⟩
theorem SelI.grown {f : PolD → Bool} {w wr wx : World} {l : List PolD} {k : Nat} {sv sv' : Value} {kk vv : Int} (h : SelI f w wr l k sv) (hg : wr.grownBy wx sv.ownBlock) (ho : wx.ownsRow w.heap.size 24 2 sv' ((selTo f l k).length + 1) (polCells (selTo f l k) ++ [.int .i64 kk, .int .i64 vv]))
    (hk : k < l.length) (hkk : l[k].k = kk) (hvv : l[k].v = vv) (hp : f l[k] = true) : SelI f w wx l (k + 1) sv' := by
  subst hkk hvv
  refine ⟨?_, ?_⟩
  · rw [selTo_yes hk hp, polCells_snoc, List.length_append]
    exact ho
  · refine ⟨hg.os.trans h.below.os, hg.tape.trans h.below.tape, hg.output.trans h.below.output, Nat.le_trans h.below.size hg.size, fun j hj => (hg.block j (Nat.lt_of_lt_of_le hj h.below.size) fun e => ?_).trans (h.below.block j hj)⟩
    have := (h.own.lt j e.symm).1
    omega

/-- The three that are asked. -/
def isA (p : PolD) : Bool := decide (p.k < 8)
def isC (p : PolD) : Bool := decide (8 ≤ p.k)
def isNot (q : Int) (p : PolD) : Bool := !(p.k == q)

set_option maxHeartbeats 1000000 in
theorem isA_any (k v : Int) (w : World) : Calls Tryd.prog 49 #[.agg #[.int .i64 k, .int .i64 v]] w fun e w' => e = .returned (.bool (isA ⟨k, v⟩)) ∧ Below w.heap.size w w' := by
  have HB := Lib.hid (show Below w.heap.size w (w.alloc (polO k v)) from (Below.refl _ _).alloc (Nat.le_refl _) _)
  have HF : Hid (isA ⟨k, v⟩ = decide (k < 8)) := Lib.hid rfl
  rw [HF.out]
  go_enter Tryd.func49, Tryd.ntmps49
  go_wp2_with fail
  go_ret
  exact ⟨rfl, HB.out⟩
set_option maxHeartbeats 1000000 in
theorem isC_any (k v : Int) (w : World) : Calls Tryd.prog 51 #[.agg #[.int .i64 k, .int .i64 v]] w fun e w' => e = .returned (.bool (isC ⟨k, v⟩)) ∧ Below w.heap.size w w' := by
  have HB := Lib.hid (show Below w.heap.size w (w.alloc (polO k v)) from (Below.refl _ _).alloc (Nat.le_refl _) _)
  have HF : Hid (isC ⟨k, v⟩ = decide (8 ≤ k)) := Lib.hid rfl
  rw [HF.out]
  go_enter Tryd.func51, Tryd.ntmps51
  go_wp2_with fail
  go_ret
  exact ⟨rfl, HB.out⟩

/-- A kind in a block of its own. -/
def boxO (q : Int) : Obj := .cells #[.int .i64 q] 3
theorem boxO_c (q : Int) (w : World) : (w.alloc (boxO q)).cell? ⟨w.heap.size, 0, none⟩ = some (.int .i64 q) := cells_at (heap_alloc_new w (boxO q)) 0

set_option maxHeartbeats 1000000 in
theorem isNot_any (q : Int) (B : Nat) (k v : Int) (w : World) (hB : B < w.heap.size) (hc : w.cell? ⟨B, 0, none⟩ = some (.int .i64 q)) : Calls Tryd.prog 48 #[.agg #[.int .i64 k, .int .i64 v], .pointer (some ⟨B, 0, none⟩)] w fun e w' => e = .returned (.bool (isNot q ⟨k, v⟩)) ∧ Below w.heap.size w w' := by
  have hb : Below w.heap.size w (w.alloc (polO k v)) := (Below.refl _ _).alloc (Nat.le_refl _) _
  have HB := Lib.hid hb
  have hc1 : (w.alloc (Obj.cells #[.int .i64 k, .int .i64 v] 24)).cell? ⟨B, 0, none⟩ = some (.int .i64 q) := (hb.cell (p := ⟨B, 0, none⟩) hB).trans hc
  have hBn : ¬ B = w.heap.size := by omega
  have hBn2 : B ≠ w.heap.size := hBn
  have HF : Hid (isNot q ⟨k, v⟩ = !(k == q)) := Lib.hid rfl
  rw [HF.out]
  clear hb
  go_enter Tryd.func48, Tryd.ntmps48
  go_wp2_with fail
  go_ret
  exact ⟨rfl, HB.out⟩

/-- What is filtered of a set, and its error. -/
noncomputable def fL (f : PolD → Bool) (l : List PolD) : List PolD := if okS l = true then l.filter f else []

set_option maxRecDepth 100000 in
set_option maxHeartbeats 4000000 in
theorem keptA (d : SlD) (w : World) (h : d.Ok w) (hl : d.l.length ≤ 1000000) :
    Calls Tryd.prog 64 #[.slice d.a d.l.length d.c, .func (.func 49) #[] #[]] w fun e w' => ∃ sv, e = .returned sv ∧ SelI isA w w' d.l d.l.length sv := by
  have IP0 := Lib.hid fun (kk vv : Int) wx (hx : Below w.heap.size w wx) => isA_any kk vv wx
  obtain ⟨ao, l, cap⟩ := d
  obtain ⟨ff, hff⟩ : ∃ ff, isA = ff := ⟨_, rfl⟩
  rw [hff] at IP0
  rw [hff]
  simp only at hl
  have HR := Lib.hid h.row
  have HL := Lib.hid hl
  clear h hl hff
  simp only
  obtain ⟨i0, hi, hz0, hz1, hz2⟩ := info_parts Tryd.info46
  go_enter Tryd.func64, Tryd.ntmps64
  go_wp2_with fail
  go_loopw [5, 10] (fun v i wr => ∃ k : Nat, i = .int .i64 k ∧ k ≤ l.length ∧ SelI ff w wr l k v) (fun _ i _ => l.length - (intOf i).toNat)
  case atStart => exact ⟨0, rfl, Nat.zero_le _, World.ownsRow_nil _ _ _ _, Below.refl _ _⟩
  case round =>
    obtain ⟨k, rfl, hk, hinv⟩ := hrel
    have HI := Lib.hid hinv
    clear hinv
    by_cases hlt : k < l.length
    · rcases HR.out with h0 | ⟨b, off, h1, hb, hp⟩
      · (try simp only at h0); subst h0; exact absurd hlt (by simp)
      try simp only at h1
      subst h1
      obtain ⟨c0, c1⟩ := (hp.below HI.out.below hb) k hlt
      try simp only at c0 c1
      obtain ⟨kk, hkk⟩ : ∃ kk, l[k].k = kk := ⟨_, rfl⟩
      obtain ⟨vv, hvv⟩ : ∃ vv, l[k].v = vv := ⟨_, rfl⟩
      rw [hkk] at c0
      rw [hvv] at c1
      have HKK := Lib.hid hkk
      have HVV := Lib.hid hvv
      have HPE : Hid ((⟨kk, vv⟩ : PolD) = l[k]) := Lib.hid (by rw [← hkk, ← hvv])
      have hb1 : Below wr.heap.size wr (wr.alloc (polO kk vv)) := (Below.refl _ _).alloc (Nat.le_refl _) _
      have HI1 := Lib.hid (HI.out.later hb1)
      have IP := Lib.hid fun wx (hx : Below w.heap.size w wx) => IP0.out kk vv wx hx
      have hk1 : (k : Int) < (l.length : Int) := by omega
      have hk2 : (k : Int) + 1 ≤ 9223372036854775807 := by have := HL.out; omega
      clear hkk hvv hp hb1
      obtain ⟨r, hr⟩ : ∃ r, ff ⟨kk, vv⟩ = r := ⟨_, rfl⟩
      rw [hr] at IP
      have HRR := Lib.hid hr
      clear hr
      cases r
      · go_wp2_with (go_at_call 49; refine (IP.out _ HI1.out.below).mono ?_; rintro e w2 ⟨rfl, hb2⟩; have HI2 := Lib.hid (HI1.out.later hb2); clear hb2)
        have HN : Hid (SelI ff w w2 l (k + 1) _) := Lib.hid (⟨by rw [selTo_no hlt (by rw [← HPE.out]; exact HRR.out)]; exact HI2.out.own, HI2.out.below⟩)
        exact ⟨⟨k + 1, by go_num, hlt, HN.out⟩, by simp [intOf]; omega⟩
      · have HLK : Hid ((selTo ff l k).length ≤ 1000000) := Lib.hid (by have := selTo_len ff l k; have := HL.out; omega)
        go_wp2_with (first | (go_at_call 49; refine (IP.out _ HI1.out.below).mono ?_; rintro e w2 ⟨rfl, hb2⟩; have n0 := (hb2.cell (p := ⟨wr.heap.size, 0, none⟩) (by simp)).trans (polO_c0 kk vv wr); have n1 := (hb2.cell (p := ⟨wr.heap.size, 1, none⟩) (by simp)).trans (polO_c1 kk vv wr); have HI2 := Lib.hid (HI1.out.later hb2); clear hb2) | (at_builtin; refine wpList_append_own_at _ rfl _ _ 22 rfl w.heap.size 24 i0 (.agg #[.int .i64 0, .int .i64 0]) 2 16 u22 hi hz0 hz1 hz2 rfl (by decide) _ _ _ rfl (HI2.out.own.alloc _) ⟨w2.heap.size, 0, none⟩ 1 1 [.int .i64 kk, .int .i64 vv] rfl rfl (cell_pol_new (heap_alloc_new _ _)) (by simp [Value.oneCell']) (by have := HLK.out; unfold maxLen; omega) (by have := HLK.out; omega) (by have := HI2.out.below.size; simp; omega) ?_; intro v' w3 hown' hgrow _ _; have HI3 := Lib.hid (SelI.grown (HI2.out.later ((Below.refl _ _).alloc (Nat.le_refl _) _)) hgrow hown' hlt HKK.out HVV.out (by rw [← HPE.out]; exact HRR.out)); clear hown' hgrow))
        exact ⟨⟨k + 1, by go_num, hlt, HI3.out⟩, by simp [intOf]; omega⟩
    · obtain rfl : k = l.length := by omega
      go_wp2_with fail
      go_ret
      exact ⟨_, rfl, HI.out⟩

set_option maxRecDepth 100000 in
set_option maxHeartbeats 1000000 in
theorem filteredA (d : SlD) (w : World) (hS : SortsAt w) (h : d.Ok w) (hl : d.l.length ≤ 1000000) :
    Calls Tryd.prog 47 #[.slice d.a d.l.length d.c, .func (.func 49) #[] #[]] w (RowPost w (fL isA d.l) (plE d.l)) := by
  have VS := Lib.hid (validSet_any d.a d.c d.l w hS h.row (by omega))
  cases hok : okS d.l
  · rw [hok] at VS
    have HO := Lib.hid hok
    clear hS h hl hok
    go_enter Tryd.func47, Tryd.ntmps47
    go_wp2_with (go_at_call 13; refine VS.out.mono ?_; rintro e w1 ⟨rfl, hb1⟩; have B1 := Lib.hid hb1; clear hb1)
    go_ret2
    exact RowPost.nil (by unfold fL; rw [if_neg (by rw [HO.out]; decide)]) (by unfold plE; rw [if_neg (by rw [HO.out]; decide)]; rfl) B1.out
  · rw [hok] at VS
    have HO := Lib.hid hok
    have KR := Lib.hid fun wx (hx : Below w.heap.size w wx) => keptA d wx (h.below hx) hl
    clear hS h hl hok
    go_enter Tryd.func47, Tryd.ntmps47
    go_wp2_with (first | (go_at_call 13; refine VS.out.mono ?_; rintro e w1 ⟨rfl, hb1⟩; have B1 := Lib.hid hb1; clear hb1) | (go_at_call 64; refine (KR.out _ B1.out).mono ?_; rintro e w2 ⟨sv, rfl, hi2⟩; have I2 := Lib.hid hi2; have B2 := Lib.hid (B1.out.trans (hi2.below.mono B1.out.size)); clear hi2))
    go_ret2
    refine RowPost.own (l := fL isA d.l) (base := w1.heap.size) ?_ (by unfold plE; rw [if_pos HO.out]; rfl) B2.out
    rw [show fL isA d.l = d.l.filter isA by unfold fL; rw [if_pos HO.out]]
    have := I2.out.own
    rw [selTo_all] at this
    exact this

set_option maxRecDepth 100000 in
set_option maxHeartbeats 4000000 in
theorem keptC (d : SlD) (w : World) (h : d.Ok w) (hl : d.l.length ≤ 1000000) :
    Calls Tryd.prog 64 #[.slice d.a d.l.length d.c, .func (.func 51) #[] #[]] w fun e w' => ∃ sv, e = .returned sv ∧ SelI isC w w' d.l d.l.length sv := by
  have IP0 := Lib.hid fun (kk vv : Int) wx (hx : Below w.heap.size w wx) => isC_any kk vv wx
  obtain ⟨ao, l, cap⟩ := d
  obtain ⟨ff, hff⟩ : ∃ ff, isC = ff := ⟨_, rfl⟩
  rw [hff] at IP0
  rw [hff]
  simp only at hl
  have HR := Lib.hid h.row
  have HL := Lib.hid hl
  clear h hl hff
  simp only
  obtain ⟨i0, hi, hz0, hz1, hz2⟩ := info_parts Tryd.info46
  go_enter Tryd.func64, Tryd.ntmps64
  go_wp2_with fail
  go_loopw [5, 10] (fun v i wr => ∃ k : Nat, i = .int .i64 k ∧ k ≤ l.length ∧ SelI ff w wr l k v) (fun _ i _ => l.length - (intOf i).toNat)
  case atStart => exact ⟨0, rfl, Nat.zero_le _, World.ownsRow_nil _ _ _ _, Below.refl _ _⟩
  case round =>
    obtain ⟨k, rfl, hk, hinv⟩ := hrel
    have HI := Lib.hid hinv
    clear hinv
    by_cases hlt : k < l.length
    · rcases HR.out with h0 | ⟨b, off, h1, hb, hp⟩
      · (try simp only at h0); subst h0; exact absurd hlt (by simp)
      try simp only at h1
      subst h1
      obtain ⟨c0, c1⟩ := (hp.below HI.out.below hb) k hlt
      try simp only at c0 c1
      obtain ⟨kk, hkk⟩ : ∃ kk, l[k].k = kk := ⟨_, rfl⟩
      obtain ⟨vv, hvv⟩ : ∃ vv, l[k].v = vv := ⟨_, rfl⟩
      rw [hkk] at c0
      rw [hvv] at c1
      have HKK := Lib.hid hkk
      have HVV := Lib.hid hvv
      have HPE : Hid ((⟨kk, vv⟩ : PolD) = l[k]) := Lib.hid (by rw [← hkk, ← hvv])
      have hb1 : Below wr.heap.size wr (wr.alloc (polO kk vv)) := (Below.refl _ _).alloc (Nat.le_refl _) _
      have HI1 := Lib.hid (HI.out.later hb1)
      have IP := Lib.hid fun wx (hx : Below w.heap.size w wx) => IP0.out kk vv wx hx
      have hk1 : (k : Int) < (l.length : Int) := by omega
      have hk2 : (k : Int) + 1 ≤ 9223372036854775807 := by have := HL.out; omega
      clear hkk hvv hp hb1
      obtain ⟨r, hr⟩ : ∃ r, ff ⟨kk, vv⟩ = r := ⟨_, rfl⟩
      rw [hr] at IP
      have HRR := Lib.hid hr
      clear hr
      cases r
      · go_wp2_with (go_at_call 51; refine (IP.out _ HI1.out.below).mono ?_; rintro e w2 ⟨rfl, hb2⟩; have HI2 := Lib.hid (HI1.out.later hb2); clear hb2)
        have HN : Hid (SelI ff w w2 l (k + 1) _) := Lib.hid (⟨by rw [selTo_no hlt (by rw [← HPE.out]; exact HRR.out)]; exact HI2.out.own, HI2.out.below⟩)
        exact ⟨⟨k + 1, by go_num, hlt, HN.out⟩, by simp [intOf]; omega⟩
      · have HLK : Hid ((selTo ff l k).length ≤ 1000000) := Lib.hid (by have := selTo_len ff l k; have := HL.out; omega)
        go_wp2_with (first | (go_at_call 51; refine (IP.out _ HI1.out.below).mono ?_; rintro e w2 ⟨rfl, hb2⟩; have n0 := (hb2.cell (p := ⟨wr.heap.size, 0, none⟩) (by simp)).trans (polO_c0 kk vv wr); have n1 := (hb2.cell (p := ⟨wr.heap.size, 1, none⟩) (by simp)).trans (polO_c1 kk vv wr); have HI2 := Lib.hid (HI1.out.later hb2); clear hb2) | (at_builtin; refine wpList_append_own_at _ rfl _ _ 22 rfl w.heap.size 24 i0 (.agg #[.int .i64 0, .int .i64 0]) 2 16 u22 hi hz0 hz1 hz2 rfl (by decide) _ _ _ rfl (HI2.out.own.alloc _) ⟨w2.heap.size, 0, none⟩ 1 1 [.int .i64 kk, .int .i64 vv] rfl rfl (cell_pol_new (heap_alloc_new _ _)) (by simp [Value.oneCell']) (by have := HLK.out; unfold maxLen; omega) (by have := HLK.out; omega) (by have := HI2.out.below.size; simp; omega) ?_; intro v' w3 hown' hgrow _ _; have HI3 := Lib.hid (SelI.grown (HI2.out.later ((Below.refl _ _).alloc (Nat.le_refl _) _)) hgrow hown' hlt HKK.out HVV.out (by rw [← HPE.out]; exact HRR.out)); clear hown' hgrow))
        exact ⟨⟨k + 1, by go_num, hlt, HI3.out⟩, by simp [intOf]; omega⟩
    · obtain rfl : k = l.length := by omega
      go_wp2_with fail
      go_ret
      exact ⟨_, rfl, HI.out⟩

set_option maxRecDepth 100000 in
set_option maxHeartbeats 1000000 in
theorem filteredC (d : SlD) (w : World) (hS : SortsAt w) (h : d.Ok w) (hl : d.l.length ≤ 1000000) :
    Calls Tryd.prog 47 #[.slice d.a d.l.length d.c, .func (.func 51) #[] #[]] w (RowPost w (fL isC d.l) (plE d.l)) := by
  have VS := Lib.hid (validSet_any d.a d.c d.l w hS h.row (by omega))
  cases hok : okS d.l
  · rw [hok] at VS
    have HO := Lib.hid hok
    clear hS h hl hok
    go_enter Tryd.func47, Tryd.ntmps47
    go_wp2_with (go_at_call 13; refine VS.out.mono ?_; rintro e w1 ⟨rfl, hb1⟩; have B1 := Lib.hid hb1; clear hb1)
    go_ret2
    exact RowPost.nil (by unfold fL; rw [if_neg (by rw [HO.out]; decide)]) (by unfold plE; rw [if_neg (by rw [HO.out]; decide)]; rfl) B1.out
  · rw [hok] at VS
    have HO := Lib.hid hok
    have KR := Lib.hid fun wx (hx : Below w.heap.size w wx) => keptC d wx (h.below hx) hl
    clear hS h hl hok
    go_enter Tryd.func47, Tryd.ntmps47
    go_wp2_with (first | (go_at_call 13; refine VS.out.mono ?_; rintro e w1 ⟨rfl, hb1⟩; have B1 := Lib.hid hb1; clear hb1) | (go_at_call 64; refine (KR.out _ B1.out).mono ?_; rintro e w2 ⟨sv, rfl, hi2⟩; have I2 := Lib.hid hi2; have B2 := Lib.hid (B1.out.trans (hi2.below.mono B1.out.size)); clear hi2))
    go_ret2
    refine RowPost.own (l := fL isC d.l) (base := w1.heap.size) ?_ (by unfold plE; rw [if_pos HO.out]; rfl) B2.out
    rw [show fL isC d.l = d.l.filter isC by unfold fL; rw [if_pos HO.out]]
    have := I2.out.own
    rw [selTo_all] at this
    exact this

set_option maxRecDepth 100000 in
set_option maxHeartbeats 4000000 in
theorem keptN (d : SlD) (w : World) (h : d.Ok w) (hl : d.l.length ≤ 1000000) (q : Int) (B : Nat) (hB : B < w.heap.size) (hc : w.cell? ⟨B, 0, none⟩ = some (.int .i64 q)) :
    Calls Tryd.prog 64 #[.slice d.a d.l.length d.c, .func (.func 48) #[] #[.pointer (some ⟨B, 0, none⟩)]] w fun e w' => ∃ sv, e = .returned sv ∧ SelI (isNot q) w w' d.l d.l.length sv := by
  have IP0 := Lib.hid fun (kk vv : Int) wx (hx : Below w.heap.size w wx) => isNot_any q B kk vv wx (Nat.lt_of_lt_of_le hB hx.size) ((hx.cell hB).trans hc)
  obtain ⟨ao, l, cap⟩ := d
  obtain ⟨ff, hff⟩ : ∃ ff, (isNot q) = ff := ⟨_, rfl⟩
  rw [hff] at IP0
  rw [hff]
  simp only at hl
  have HR := Lib.hid h.row
  have HL := Lib.hid hl
  clear h hl hff hB hc
  simp only
  obtain ⟨i0, hi, hz0, hz1, hz2⟩ := info_parts Tryd.info46
  go_enter Tryd.func64, Tryd.ntmps64
  go_wp2_with fail
  go_loopw [5, 10] (fun v i wr => ∃ k : Nat, i = .int .i64 k ∧ k ≤ l.length ∧ SelI ff w wr l k v) (fun _ i _ => l.length - (intOf i).toNat)
  case atStart => exact ⟨0, rfl, Nat.zero_le _, World.ownsRow_nil _ _ _ _, Below.refl _ _⟩
  case round =>
    obtain ⟨k, rfl, hk, hinv⟩ := hrel
    have HI := Lib.hid hinv
    clear hinv
    by_cases hlt : k < l.length
    · rcases HR.out with h0 | ⟨b, off, h1, hb, hp⟩
      · (try simp only at h0); subst h0; exact absurd hlt (by simp)
      try simp only at h1
      subst h1
      obtain ⟨c0, c1⟩ := (hp.below HI.out.below hb) k hlt
      try simp only at c0 c1
      obtain ⟨kk, hkk⟩ : ∃ kk, l[k].k = kk := ⟨_, rfl⟩
      obtain ⟨vv, hvv⟩ : ∃ vv, l[k].v = vv := ⟨_, rfl⟩
      rw [hkk] at c0
      rw [hvv] at c1
      have HKK := Lib.hid hkk
      have HVV := Lib.hid hvv
      have HPE : Hid ((⟨kk, vv⟩ : PolD) = l[k]) := Lib.hid (by rw [← hkk, ← hvv])
      have hb1 : Below wr.heap.size wr (wr.alloc (polO kk vv)) := (Below.refl _ _).alloc (Nat.le_refl _) _
      have HI1 := Lib.hid (HI.out.later hb1)
      have IP := Lib.hid fun wx (hx : Below w.heap.size w wx) => IP0.out kk vv wx hx
      have hk1 : (k : Int) < (l.length : Int) := by omega
      have hk2 : (k : Int) + 1 ≤ 9223372036854775807 := by have := HL.out; omega
      clear hkk hvv hp hb1
      obtain ⟨r, hr⟩ : ∃ r, ff ⟨kk, vv⟩ = r := ⟨_, rfl⟩
      rw [hr] at IP
      have HRR := Lib.hid hr
      clear hr
      cases r
      · go_wp2_with (go_at_call 48; refine (IP.out _ HI1.out.below).mono ?_; rintro e w2 ⟨rfl, hb2⟩; have HI2 := Lib.hid (HI1.out.later hb2); clear hb2)
        have HN : Hid (SelI ff w w2 l (k + 1) _) := Lib.hid (⟨by rw [selTo_no hlt (by rw [← HPE.out]; exact HRR.out)]; exact HI2.out.own, HI2.out.below⟩)
        exact ⟨⟨k + 1, by go_num, hlt, HN.out⟩, by simp [intOf]; omega⟩
      · have HLK : Hid ((selTo ff l k).length ≤ 1000000) := Lib.hid (by have := selTo_len ff l k; have := HL.out; omega)
        go_wp2_with (first | (go_at_call 48; refine (IP.out _ HI1.out.below).mono ?_; rintro e w2 ⟨rfl, hb2⟩; have n0 := (hb2.cell (p := ⟨wr.heap.size, 0, none⟩) (by simp)).trans (polO_c0 kk vv wr); have n1 := (hb2.cell (p := ⟨wr.heap.size, 1, none⟩) (by simp)).trans (polO_c1 kk vv wr); have HI2 := Lib.hid (HI1.out.later hb2); clear hb2) | (at_builtin; refine wpList_append_own_at _ rfl _ _ 22 rfl w.heap.size 24 i0 (.agg #[.int .i64 0, .int .i64 0]) 2 16 u22 hi hz0 hz1 hz2 rfl (by decide) _ _ _ rfl (HI2.out.own.alloc _) ⟨w2.heap.size, 0, none⟩ 1 1 [.int .i64 kk, .int .i64 vv] rfl rfl (cell_pol_new (heap_alloc_new _ _)) (by simp [Value.oneCell']) (by have := HLK.out; unfold maxLen; omega) (by have := HLK.out; omega) (by have := HI2.out.below.size; simp; omega) ?_; intro v' w3 hown' hgrow _ _; have HI3 := Lib.hid (SelI.grown (HI2.out.later ((Below.refl _ _).alloc (Nat.le_refl _) _)) hgrow hown' hlt HKK.out HVV.out (by rw [← HPE.out]; exact HRR.out)); clear hown' hgrow))
        exact ⟨⟨k + 1, by go_num, hlt, HI3.out⟩, by simp [intOf]; omega⟩
    · obtain rfl : k = l.length := by omega
      go_wp2_with fail
      go_ret
      exact ⟨_, rfl, HI.out⟩

set_option maxRecDepth 100000 in
set_option maxHeartbeats 1000000 in
theorem filteredN (d : SlD) (w : World) (hS : SortsAt w) (h : d.Ok w) (hl : d.l.length ≤ 1000000) (q : Int) (B : Nat) (hB : B < w.heap.size) (hc : w.cell? ⟨B, 0, none⟩ = some (.int .i64 q)) :
    Calls Tryd.prog 47 #[.slice d.a d.l.length d.c, .func (.func 48) #[] #[.pointer (some ⟨B, 0, none⟩)]] w (RowPost w (fL (isNot q) d.l) (plE d.l)) := by
  have VS := Lib.hid (validSet_any d.a d.c d.l w hS h.row (by omega))
  cases hok : okS d.l
  · rw [hok] at VS
    have HO := Lib.hid hok
    clear hS h hl hok hB hc
    go_enter Tryd.func47, Tryd.ntmps47
    go_wp2_with (go_at_call 13; refine VS.out.mono ?_; rintro e w1 ⟨rfl, hb1⟩; have B1 := Lib.hid hb1; clear hb1)
    go_ret2
    exact RowPost.nil (by unfold fL; rw [if_neg (by rw [HO.out]; decide)]) (by unfold plE; rw [if_neg (by rw [HO.out]; decide)]; rfl) B1.out
  · rw [hok] at VS
    have HO := Lib.hid hok
    have KR := Lib.hid fun wx (hx : Below w.heap.size w wx) => keptN d wx (h.below hx) hl q B (Nat.lt_of_lt_of_le hB hx.size) ((hx.cell hB).trans hc)
    clear hS h hl hok hB hc
    go_enter Tryd.func47, Tryd.ntmps47
    go_wp2_with (first | (go_at_call 13; refine VS.out.mono ?_; rintro e w1 ⟨rfl, hb1⟩; have B1 := Lib.hid hb1; clear hb1) | (go_at_call 64; refine (KR.out _ B1.out).mono ?_; rintro e w2 ⟨sv, rfl, hi2⟩; have I2 := Lib.hid hi2; have B2 := Lib.hid (B1.out.trans (hi2.below.mono B1.out.size)); clear hi2))
    go_ret2
    refine RowPost.own (l := fL (isNot q) d.l) (base := w1.heap.size) ?_ (by unfold plE; rw [if_pos HO.out]; rfl) B2.out
    rw [show fL (isNot q) d.l = d.l.filter (isNot q) by unfold fL; rw [if_pos HO.out]]
    have := I2.out.own
    rw [selTo_all] at this
    exact this

set_option maxRecDepth 100000 in
set_option maxHeartbeats 1000000 in
theorem adapters_any (d : SlD) (w : World) (hS : SortsAt w) (h : d.Ok w) (hl : d.l.length ≤ 1000000) :
    Calls Tryd.prog 21 #[.slice d.a d.l.length d.c] w (RowPost w (fL isA d.l) (plE d.l)) := by
  have FI := Lib.hid (filteredA d w hS h hl)
  obtain ⟨L, hL⟩ : ∃ L, fL isA d.l = L := ⟨_, rfl⟩
  obtain ⟨er, her⟩ : ∃ er, plE d.l = er := ⟨_, rfl⟩
  rw [hL, her] at FI
  rw [hL, her]
  clear hS h hl hL her
  go_enter Tryd.func21, Tryd.ntmps21
  go_wp2_with (go_at_call 47; refine FI.out.mono ?_; rintro e w1 ⟨d, hd, rfl, hok, hb1⟩; have HD := Lib.hid hd; have HO := Lib.hid hok; have B1 := Lib.hid hb1; clear hd hok hb1; unfold SlD.v)
  go_ret2
  exact ⟨d, HD.out, rfl, HO.out, B1.out⟩

set_option maxRecDepth 100000 in
set_option maxHeartbeats 1000000 in
theorem calls_any (d : SlD) (w : World) (hS : SortsAt w) (h : d.Ok w) (hl : d.l.length ≤ 1000000) :
    Calls Tryd.prog 23 #[.slice d.a d.l.length d.c] w (RowPost w (fL isC d.l) (plE d.l)) := by
  have FI := Lib.hid (filteredC d w hS h hl)
  obtain ⟨L, hL⟩ : ∃ L, fL isC d.l = L := ⟨_, rfl⟩
  obtain ⟨er, her⟩ : ∃ er, plE d.l = er := ⟨_, rfl⟩
  rw [hL, her] at FI
  rw [hL, her]
  clear hS h hl hL her
  go_enter Tryd.func23, Tryd.ntmps23
  go_wp2_with (go_at_call 47; refine FI.out.mono ?_; rintro e w1 ⟨d, hd, rfl, hok, hb1⟩; have HD := Lib.hid hd; have HO := Lib.hid hok; have B1 := Lib.hid hb1; clear hd hok hb1; unfold SlD.v)
  go_ret2
  exact ⟨d, HD.out, rfl, HO.out, B1.out⟩

end Go.Proofs.YtladjkkkhomngaaDoor
