/- The contracts of policy.Effective and policy.Over. -/
import Derived.Test.YtpncdcncfinohaaDoorTc
import Derived.Test.YtpncdcncfinohaaDoorTd
namespace Go.Proofs.YtpncdcncfinohaaDoor
open Go.RowKit Go.Sort Go.BigFrame

/-- A slice of policies. -/
structure SlD where
  a : Option Addr
  l : List PolD
  c : Nat
def SlD.v (d : SlD) : Value := .slice d.a d.l.length d.c
/-- .. that lies in memory. -/
structure SlD.Ok (W : World) (d : SlD) : Prop where
  len : d.l.length ≤ d.c
  row : RowAt W d.a d.l
  bare : d.a = none → d.l = [] ∧ d.c = 0
theorem SlD.Ok.below {W W' : World} {d : SlD} (h : d.Ok W) (hb : Below W.heap.size W W') : d.Ok W' := ⟨h.len, h.row.below hb, h.bare⟩
theorem SlD.Ok.lt {W : World} {d : SlD} (h : d.Ok W) : SlLt W.heap.size W d.v d.l := ⟨_, _, rfl, h.len, h.row⟩
theorem sl_of_own {W : World} {base : Nat} {sv : Value} {l : List PolD} (h : W.ownsRow base 46 2 sv l.length (polCells l)) : ∃ d : SlD, d.l = l ∧ sv = d.v ∧ d.Ok W := by
  obtain ⟨ao, cap, rfl, hr⟩ := row_of_own h
  refine ⟨⟨ao, l, cap⟩, rfl, rfl, ?_⟩
  rcases h.2 with ⟨h1, h2⟩ | ⟨g, cap', cur, h1, _, _, h2, _⟩
  · simp only [Value.slice.injEq] at h1
    obtain ⟨_, _, rfl⟩ := h1
    exact ⟨by simp [h2], hr, fun _ => ⟨List.eq_nil_of_length_eq_zero h2, rfl⟩⟩
  · simp only [Value.slice.injEq] at h1
    obtain ⟨rfl, _, rfl⟩ := h1
    exact ⟨h2, hr, fun h => by cases h⟩

/-- Slices of policies side by side in a block. -/
def SlsAt (W : World) (g : Nat) (ss : List SlD) : Prop := g < W.heap.size ∧ ∀ i (h : i < ss.length), W.cell? ⟨g, i, none⟩ = some ss[i].v ∧ ss[i].Ok W
theorem SlsAt.below {W W' : World} {g : Nat} {ss : List SlD} (h : SlsAt W g ss) (hb : Below W.heap.size W W') : SlsAt W' g ss :=
  ⟨Nat.lt_of_lt_of_le h.1 hb.size, fun i hi => ⟨(hb.cell h.1).trans (h.2 i hi).1, (h.2 i hi).2.below hb⟩⟩

/-- Are all of them sets? -/
noncomputable def allOk (ss : List SlD) : Bool := ss.all fun d => okS d.l
theorem allOk_bad {ss : List SlD} {i : Nat} (h : i < ss.length) (hb : okS ss[i].l = false) : allOk ss = false := by
  cases ha : allOk ss with
  | false => rfl
  | true =>
    have := List.all_eq_true.1 ha _ (List.getElem_mem h)
    rw [hb] at this
    cases this
theorem allOk_at {ss : List SlD} {i : Nat} (h : i < ss.length) (ha : allOk ss = true) : okS ss[i].l = true := List.all_eq_true.1 ha _ (List.getElem_mem h)
/-- The first n are sets. -/
def okFirst (ss : List SlD) (n : Nat) : Prop := ∀ i, i < n → ∀ h : i < ss.length, okS ss[i].l = true
theorem allOk_all {ss : List SlD} (h : okFirst ss ss.length) : allOk ss = true := List.all_eq_true.2 fun d hd => by
  obtain ⟨i, hi, rfl⟩ := List.getElem_of_mem hd
  exact h i hi hi

theorem eff1_any (d : SlD) (w : World) (hS : SortsAt w) (h : d.Ok w) (hl : d.l.length ≤ 1000000) :
    Calls Tryd.prog 24 #[.slice d.a d.l.length d.c] w fun e w' => e = .returned (.bool (!okS d.l)) ∧ Below w.heap.size w w' := by
  have VS := Lib.hid (validSet_any d.a d.c d.l w hS h.row (by omega))
  obtain ⟨r, hr⟩ : ∃ r, okS d.l = r := ⟨_, rfl⟩
  rw [hr] at VS
  rw [hr]
  clear hS h hl hr
  go_enter Tryd.func24, Tryd.ntmps24
  go_wp2_with (go_at_call 25; refine VS.out.mono ?_; rintro e w1 ⟨rfl, hb1⟩; have B1 := Lib.hid hb1; clear hb1)
  go_ret
  exact ⟨rfl, B1.out⟩

set_option maxRecDepth 100000 in
set_option maxHeartbeats 2000000 in
theorem indexBad_any (g cap : Nat) (ss : List SlD) (w : World) (hS : SortsAt w) (h : SlsAt w g ss) (hl : ss.length ≤ 1000) (hls : ∀ d ∈ ss, d.l.length ≤ 1000000) :
    Calls Tryd.prog 42 #[.slice (some ⟨g, 0, none⟩) ss.length cap, .func (.func 24) #[] #[]] w fun e w' => ∃ k : Int, e = .returned (.int .i64 k) ∧ decide (0 ≤ k) = !allOk ss ∧ Below w.heap.size w w' := by
  have HS := Lib.hid hS
  have HR := Lib.hid h
  have HL := Lib.hid hl
  have HLS := Lib.hid hls
  clear hS h hl hls
  go_enter Tryd.func42, Tryd.ntmps42
  go_wp2_with fail
  go_loopw [8] (fun i wr => ∃ k : Nat, i = .int .i64 k ∧ k ≤ ss.length ∧ okFirst ss k ∧ Below w.heap.size w wr) (fun i _ => ss.length - (intOf i).toNat)
  case atStart => exact ⟨0, rfl, Nat.zero_le _, fun i h => absurd h (Nat.not_lt_zero i), Below.refl _ _⟩
  case round =>
    obtain ⟨k, rfl, hk, hok, hbel⟩ := hrel
    have HB := Lib.hid hbel
    have HK := Lib.hid hok
    clear hbel hok
    by_cases hlt : k < ss.length
    · obtain ⟨hc, ho⟩ := (HR.out.below HB.out).2 k hlt
      have hgl := HR.out.1
      obtain ⟨d, hd⟩ : ∃ d, ss[k] = d := ⟨_, rfl⟩
      rw [hd] at hc ho
      have HD := Lib.hid hd
      have CC := Lib.hid (eff1_any d wr (HS.out.below HB.out HS.out.pos) ho (by rw [← hd]; exact HLS.out _ (List.getElem_mem hlt)))
      obtain ⟨r, hr⟩ : ∃ r, okS d.l = r := ⟨_, rfl⟩
      rw [hr] at CC
      have HRR := Lib.hid hr
      unfold SlD.v at hc
      have hk1 : (k : Int) < (ss.length : Int) := by omega
      have hk2 : (k : Int) + 1 ≤ 9223372036854775807 := by have := HL.out; omega
      have hk0 : (0 : Int) ≤ (k : Int) := by omega
      clear hd hr ho
      cases r
      · go_wp2_with (go_at_call 24; refine CC.out.mono ?_; rintro e w2 ⟨rfl, hb2⟩; have B2 := Lib.hid (HB.out.trans (hb2.mono HB.out.size)); clear hb2)
        go_ret
        exact ⟨k, rfl, by rw [allOk_bad hlt (by rw [HD.out]; exact HRR.out)]; simp, B2.out⟩
      · go_wp2_with (go_at_call 24; refine CC.out.mono ?_; rintro e w2 ⟨rfl, hb2⟩; have B2 := Lib.hid (HB.out.trans (hb2.mono HB.out.size)); clear hb2)
        refine ⟨⟨k + 1, by go_num, hlt, fun i hi h => ?_, B2.out⟩, by simp [intOf]; omega⟩
        by_cases e : i = k
        · subst e; rw [HD.out]; exact HRR.out
        · exact HK.out i (by omega) h
    · obtain rfl : k = ss.length := by omega
      have HA : Hid (allOk ss = true) := Lib.hid (allOk_all HK.out)
      go_wp2_with fail
      go_ret
      exact ⟨-1, rfl, by rw [HA.out]; rfl, HB.out⟩

set_option maxHeartbeats 1000000 in
theorem anyBad_any (g cap : Nat) (ss : List SlD) (w : World) (hS : SortsAt w) (h : SlsAt w g ss) (hl : ss.length ≤ 1000) (hls : ∀ d ∈ ss, d.l.length ≤ 1000000) :
    Calls Tryd.prog 23 #[.slice (some ⟨g, 0, none⟩) ss.length cap, .func (.func 24) #[] #[]] w fun e w' => e = .returned (.bool (!allOk ss)) ∧ Below w.heap.size w w' := by
  have IX := Lib.hid (indexBad_any g cap ss w hS h hl hls)
  clear hS h hl hls
  go_enter Tryd.func23, Tryd.ntmps23
  go_wp2_with (go_at_call 42; refine IX.out.mono ?_; rintro e w1 ⟨k, rfl, hk, hb1⟩; have B1 := Lib.hid hb1; have HK := Lib.hid hk; clear hb1 hk)
  go_ret
  exact ⟨ret_bool HK.out, B1.out⟩

/-- The first n rows as one. -/
def effTo (ss : List SlD) (n : Nat) : List PolD := (ss.take n).foldl (fun acc d => mrg acc d.l) []
theorem effTo_succ {ss : List SlD} {n : Nat} (h : n < ss.length) : effTo ss (n + 1) = mrg (effTo ss n) ss[n].l := by
  unfold effTo
  rw [List.take_succ_eq_append_getElem h, List.foldl_append]
  rfl
theorem effTo_len {ss : List SlD} (hls : ∀ d ∈ ss, d.l.length ≤ 1000) : ∀ n, n ≤ ss.length → (effTo ss n).length ≤ 1000 * n
  | 0, _ => by simp [effTo]
  | n + 1, h => by
    rw [effTo_succ (by omega)]
    have h1 := effTo_len hls n (by omega)
    have h2 := mrg_length (effTo ss n) ss[n].l
    have h3 := hls _ (List.getElem_mem (show n < ss.length by omega))
    omega
/-- What policy.Effective returns, and its error. -/
noncomputable def effL (ss : List SlD) : List PolD := if allOk ss = true then effTo ss ss.length else []
noncomputable def effE (ss : List SlD) : Int := if allOk ss = true then 0 else 1

/-- A row and an error are returned. -/
def RowPost (w : World) (l : List PolD) (er : Int) (e : Ending) (w' : World) : Prop := ∃ d : SlD, d.l = l ∧ e = .returned (.tuple #[d.v, .int .i64 er]) ∧ d.Ok w' ∧ Below w.heap.size w w'
theorem RowPost.nil {w w' : World} {l : List PolD} {er : Int} {e : Ending} (hl : l = []) (he : e = .returned (.tuple #[.slice none 0 0, .int .i64 er])) (hb : Below w.heap.size w w') : RowPost w l er e w' := by
  subst hl
  exact ⟨⟨none, [], 0⟩, rfl, he, ⟨Nat.le_refl _, .inl rfl, fun _ => ⟨rfl, rfl⟩⟩, hb⟩
theorem RowPost.own {w w' : World} {l : List PolD} {er : Int} {e : Ending} {sv : Value} {base : Nat} (ho : w'.ownsRow base 46 2 sv l.length (polCells l)) (he : e = .returned (.tuple #[sv, .int .i64 er])) (hb : Below w.heap.size w w') : RowPost w l er e w' := by
  obtain ⟨d, hd, hv, hok⟩ := sl_of_own ho
  exact ⟨d, hd, by rw [he, hv], hok, hb⟩

/-- What a round of Effective knows. -/
structure EffI (w wr : World) (ss : List SlD) (k : Nat) (sv : Value) : Prop where
  own : wr.ownsRow w.heap.size 46 2 sv (effTo ss k).length (polCells (effTo ss k))
  below : Below w.heap.size w wr

set_option maxRecDepth 100000 in
set_option maxHeartbeats 4000000 in
theorem effective_any (g cap : Nat) (ss : List SlD) (w : World) (hS : SortsAt w) (h : SlsAt w g ss) (hl : ss.length ≤ 3) (hls : ∀ d ∈ ss, d.l.length ≤ 1000) :
    Calls Tryd.prog 9 #[.slice (some ⟨g, 0, none⟩) ss.length cap] w (RowPost w (effL ss) (effE ss)) := by
  have AB := Lib.hid (anyBad_any g cap ss w hS h (by omega) (fun d hd => by have := hls d hd; omega))
  have HS := Lib.hid hS
  have HR := Lib.hid h
  have HL := Lib.hid hl
  have HLS := Lib.hid hls
  have n100 : ¬ (100 : Int) < (ss.length : Int) := by omega
  have d100 : decide ((100 : Int) < (ss.length : Int)) = false := by simp; omega
  clear hS h hl hls
  cases ha : allOk ss
  · rw [ha] at AB
    have HA := Lib.hid ha
    clear ha
    go_enter Tryd.func9, Tryd.ntmps9
    go_wp2_with (go_at_call 23; refine AB.out.mono ?_; rintro e w1 ⟨rfl, hb1⟩; have B1 := Lib.hid hb1; clear hb1)
    go_ret2
    exact RowPost.nil (by unfold effL; rw [if_neg (by rw [HA.out]; decide)]) (by unfold effE; rw [if_neg (by rw [HA.out]; decide)]; rfl) B1.out
  · rw [ha] at AB
    have HA := Lib.hid ha
    clear ha
    go_enter Tryd.func9, Tryd.ntmps9
    go_wp2_with (go_at_call 23; refine AB.out.mono ?_; rintro e w1 ⟨rfl, hb1⟩; have B1 := Lib.hid hb1; clear hb1)
    have I0 : Hid (EffI w w1 ss 0 (.slice none 0 0)) := Lib.hid ⟨World.ownsRow_nil _ _ _ _, B1.out⟩
    go_loopw [4, 16] (fun v i wr => ∃ k : Nat, i = .int .i64 k ∧ k ≤ ss.length ∧ EffI w wr ss k v) (fun _ i _ => ss.length - (intOf i).toNat)
    case atStart => exact ⟨0, rfl, Nat.zero_le _, I0.out⟩
    case round =>
      obtain ⟨k, rfl, hk, hinv⟩ := hrel
      have HI := Lib.hid hinv
      clear hinv
      by_cases hlt : k < ss.length
      · obtain ⟨hc, ho⟩ := (HR.out.below HI.out.below).2 k hlt
        have hgl := HR.out.1
        obtain ⟨d0, hd0, rfl, hok0⟩ := sl_of_own HI.out.own
        have hlen0 : d0.l.length ≤ 3000 := by rw [hd0]; have := effTo_len HLS.out k hk; have := HL.out; omega
        obtain ⟨d, hd⟩ : ∃ d, ss[k] = d := ⟨_, rfl⟩
        rw [hd] at hc ho
        have hlen : d.l.length ≤ 1000 := by rw [← hd]; exact HLS.out _ (List.getElem_mem hlt)
        have TG := Lib.hid (together_any d0.a d.a d0.c d.c d0.l d.l wr hok0.lt ho.lt (by omega) (by omega))
        have HE : Hid (mrg d0.l d.l = effTo ss (k + 1)) := Lib.hid (by rw [effTo_succ hlt, hd0, hd])
        rw [HE.out] at TG
        unfold SlD.v at hc
        have hk1 : (k : Int) < (ss.length : Int) := by omega
        have hk2 : (k : Int) + 1 ≤ 9223372036854775807 := by have := HL.out; omega
        have hk0 : (0 : Int) ≤ (k : Int) := by omega
        show Code.wp _ _ _ _ _
        clear hd hd0 ho hok0 hlen0 hlen
        unfold SlD.v
        go_wp2_with (go_at_call 26; refine TG.out.mono ?_; rintro e w2 ⟨sv2, rfl, ho2, hb2⟩; have O2 := Lib.hid ho2; have B2 := Lib.hid (HI.out.below.trans (hb2.mono HI.out.below.size)); clear ho2 hb2)
        have hI2 : EffI w w2 ss (k + 1) sv2 := ⟨⟨O2.out.1, O2.out.2.imp id fun ⟨g, cap, cur, e1, e2, e3⟩ => ⟨g, cap, cur, e1, Nat.le_trans HI.out.below.size e2, e3⟩⟩, B2.out⟩
        exact ⟨⟨k + 1, by go_num, hlt, hI2⟩, by simp [intOf]; omega⟩
      · obtain rfl : k = ss.length := by omega
        go_wp2_with fail
        go_ret2
        exact RowPost.own (l := effL ss) (by rw [show effL ss = effTo ss ss.length by unfold effL; rw [if_pos HA.out]]; exact HI.out.own) (by unfold effE; rw [if_pos HA.out]; rfl) HI.out.below

/-- What policy.Over returns, and its error. -/
noncomputable def ovL (s o : List PolD) : List PolD := if okS s = true ∧ okS o = true then mrg s o else []
noncomputable def ovE (s o : List PolD) : Int := if okS s = true ∧ okS o = true then 0 else 1
theorem eff_two (d1 d2 : SlD) : effL [d1, d2] = ovL d1.l d2.l ∧ effE [d1, d2] = ovE d1.l d2.l := by
  unfold effL effE ovL ovE
  by_cases h : okS d1.l = true ∧ okS d2.l = true
  · rw [if_pos h, if_pos h, if_pos (by simp [allOk, h.1, h.2]), if_pos (by simp [allOk, h.1, h.2])]
    refine ⟨?_, rfl⟩
    simp [effTo, mrg_nil_left (okS_up h.1)]
  · have h2 : ¬ allOk [d1, d2] = true := fun ha => h (by simpa [allOk] using ha)
    rw [if_neg h, if_neg h, if_neg h2, if_neg h2]
    exact ⟨rfl, rfl⟩

theorem cells_at {W : World} {g : Nat} {cs : Array Value} {t : TypeId} (h : W.heap[g]? = some (.cells cs t (0, 0))) (i : Nat) : W.cell? ⟨g, i, none⟩ = cs[i]? := by simp [World.cell?, h]

theorem sls_two {w : World} {d1 d2 : SlD} (h1 : d1.Ok w) (h2 : d2.Ok w) : SlsAt (w.alloc (.cells #[d1.v, d2.v] 22)) w.heap.size [d1, d2] := by
  have hb : Below w.heap.size w (w.alloc (.cells #[d1.v, d2.v] 22)) := (Below.refl _ _).alloc (Nat.le_refl _) _
  have hn := heap_alloc_new w (.cells #[d1.v, d2.v] 22)
  refine ⟨by simp, fun i hi => ?_⟩
  have hh : i = 0 ∨ i = 1 := by simp at hi; omega
  rcases hh with rfl | rfl
  · exact ⟨cells_at hn 0, h1.below hb⟩
  · exact ⟨cells_at hn 1, h2.below hb⟩
theorem sls_three {w : World} {d1 d2 d3 : SlD} (h1 : d1.Ok w) (h2 : d2.Ok w) (h3 : d3.Ok w) : SlsAt (w.alloc (.cells #[d1.v, d2.v, d3.v] 22)) w.heap.size [d1, d2, d3] := by
  have hb : Below w.heap.size w (w.alloc (.cells #[d1.v, d2.v, d3.v] 22)) := (Below.refl _ _).alloc (Nat.le_refl _) _
  have hn := heap_alloc_new w (.cells #[d1.v, d2.v, d3.v] 22)
  refine ⟨by simp, fun i hi => ?_⟩
  have hh : i = 0 ∨ i = 1 ∨ i = 2 := by simp at hi; omega
  rcases hh with rfl | rfl | rfl
  · exact ⟨cells_at hn 0, h1.below hb⟩
  · exact ⟨cells_at hn 1, h2.below hb⟩
  · exact ⟨cells_at hn 2, h3.below hb⟩

set_option maxRecDepth 100000 in
set_option maxHeartbeats 1000000 in
theorem over_any (d1 d2 : SlD) (w : World) (hS : SortsAt w) (h1 : d1.Ok w) (h2 : d2.Ok w) (hl1 : d1.l.length ≤ 1000) (hl2 : d2.l.length ≤ 1000) :
    Calls Tryd.prog 7 #[.slice d1.a d1.l.length d1.c, .slice d2.a d2.l.length d2.c] w (RowPost w (ovL d1.l d2.l) (ovE d1.l d2.l)) := by
  have hb : Below w.heap.size w (w.alloc (.cells #[d1.v, d2.v] 22)) := (Below.refl _ _).alloc (Nat.le_refl _) _
  have EF := effective_any w.heap.size 2 [d1, d2] _ (hS.below hb hS.pos) (sls_two h1 h2) (by simp) (by simp [hl1, hl2])
  rw [(eff_two d1 d2).1, (eff_two d1 d2).2] at EF
  obtain ⟨L, hL⟩ : ∃ L, ovL d1.l d2.l = L := ⟨_, rfl⟩
  obtain ⟨er, her⟩ : ∃ er, ovE d1.l d2.l = er := ⟨_, rfl⟩
  rw [hL, her] at EF
  rw [hL, her]
  have HEF := Lib.hid EF
  have HB := Lib.hid hb
  clear EF hb hS h1 h2 hl1 hl2 hL her
  go_enter Tryd.func7, Tryd.ntmps7
  go_wp2_with (go_at_call 9; refine HEF.out.mono ?_; rintro e w1 ⟨d, hd, rfl, hok, hb1⟩; have HD := Lib.hid hd; have HO := Lib.hid hok; have B1 := Lib.hid (HB.out.trans (hb1.mono HB.out.size)); clear hd hok hb1; unfold SlD.v)
  go_ret2
  exact ⟨d, HD.out, rfl, HO.out, B1.out⟩

end Go.Proofs.YtpncdcncfinohaaDoor
