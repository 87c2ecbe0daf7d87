/- frag's New, asked, Cancel, Held, Bytes. -/
import Derived.Test.YteblbpdpfegooaaJl
import Derived.Laws.ResultCell
import Derived.OwnWalk
import Derived.Lib.BufferRead
namespace Go.Proofs.Yteblbpdpfegooaa
open Go.RowKit Go.Sort Go.BigFrame Go.Maps

/-- What New returns. -/
def FNewP (most room : Int) (w : World) (e : Ending) (w' : World) : Prop :=
  if limB most room = true then ∃ b F mb D loc, e = .returned (.tuple #[.pointer (some ⟨b, 0, none⟩), .int .i64 0]) ∧ FJ w' F b mb most room D loc [] ∧ (∀ k, F k → w.heap.size ≤ k) ∧ Below w.heap.size w w'
  else e = .returned (.tuple #[.pointer none, .int .i64 7]) ∧ w' = w

theorem fnew_ok {most room : Int} (w : World) (h : limB most room = true) : FNewP most room w (.returned (.tuple #[.pointer (some ⟨w.heap.size + 1, 0, none⟩), .int .i64 0])) ((w.alloc (.map #[] 0)).alloc (.cells #[.int .i64 most, .int .i64 room, .map (some w.heap.size), .int .i64 0] 60)) := by
  unfold FNewP
  rw [if_pos h]
  have hown := World.ownsMap_made w Try.prog 3 msgE
  refine ⟨w.heap.size + 1, fun k => k = w.heap.size + 1 ∨ k = w.heap.size, w.heap.size, .map [], fun _ => (0, 0), rfl, ⟨heap_alloc_two _ _ _, (hown.alloc _).mono (by omega), by simp [idsO], fun i => by simp [idsO, Maps.has], fun x hx => by simp at hx, fun x hx => by simp at hx, fun x hx => by simp at hx, fun x hx => by simp at hx, .inl rfl, .inr rfl, by omega, fun k hk => ?_⟩, fun k hk => by omega, ((Below.refl _ _).alloc (Nat.le_refl _) _).alloc (by simp) _⟩
  simp
  omega

theorem fnew_no {most room : Int} (w : World) (h : limB most room = false) : FNewP most room w (.returned (.tuple #[.pointer none, .int .i64 7])) w := by
  unfold FNewP
  rw [if_neg (by rw [h]; decide)]
  exact ⟨rfl, rfl⟩

set_option maxHeartbeats 1000000 in
theorem fnew_any (most room : Int) (w : World) : Calls Try.prog 8 #[.int .i64 most, .int .i64 room] w (FNewP most room w) := by
  have hmm := @run_makeMap Try.prog
  refine limB_cases most room _ (fun a1 hb => ?_) (fun a1 a2 hb => ?_) (fun a1 a2 a3 hb => ?_) (fun a1 a2 a3 a4 hb => ?_) (fun a1 a2 a3 a4 hb => ?_)
  · have e1 := decide_eq_true a1
    have HN := Lib.hid (fnew_no w hb)
    clear hb
    go_enter Try.func8, Try.ntmps8
    go_wp2_with fail
    go_ret2
    exact HN.out
  · have e1 := decide_eq_false a1
    have e2 := decide_eq_true a2
    have HN := Lib.hid (fnew_no w hb)
    clear hb
    go_enter Try.func8, Try.ntmps8
    go_wp2_with fail
    go_ret2
    exact HN.out
  · have e1 := decide_eq_false a1
    have e2 := decide_eq_false a2
    have e3 := decide_eq_true a3
    have HN := Lib.hid (fnew_no w hb)
    clear hb
    go_enter Try.func8, Try.ntmps8
    go_wp2_with fail
    go_ret2
    exact HN.out
  · have e1 := decide_eq_false a1
    have e2 := decide_eq_false a2
    have e3 := decide_eq_false a3
    have e4 := decide_eq_true a4
    have HN := Lib.hid (fnew_no w hb)
    clear hb
    go_enter Try.func8, Try.ntmps8
    go_wp2_with fail
    go_ret2
    exact HN.out
  · have e1 := decide_eq_false a1
    have e2 := decide_eq_false a2
    have e3 := decide_eq_false a3
    have e4 := decide_eq_false a4
    have HN := Lib.hid (fnew_ok w hb)
    clear hb
    go_enter Try.func8, Try.ntmps8
    go_wp2_with fail
    go_ret2
    exact HN.out

/-- What asked returns. -/
def askB (l : List Op) (id : Int) : Bool := numB id && (idxO l id).isSome
def askE (l : List Op) (id : Int) : Int := if numB id = true then (match idxO l id with | none => 8 | some _ => 0) else 1
def askV (loc : Int → Nat × Nat) (l : List Op) (id : Int) : Value := if numB id = true then msgAt loc l id else msg0
def AskP (w : World) (loc : Int → Nat × Nat) (l : List Op) (id : Int) (e : Ending) (w' : World) : Prop := e = .returned (.tuple #[askV loc l id, .int .i64 (askE l id)]) ∧ Below w.heap.size w w'

set_option maxRecDepth 100000 in
set_option maxHeartbeats 2000000 in
theorem asked_any (b mb : Nat) (most room : Int) (D : DataW Unit) (loc : Int → Nat × Nat) (l : List Op) (id : Int) (F : Nat → Prop) (w : World) (h : FJ w F b mb most room D loc l) :
    Calls Try.prog 28 #[.pointer (some ⟨b, 0, none⟩), .int .i64 id] w (AskP w loc l id) := by
  have NA := Lib.hid fun wx => num_any id wx
  have hb1 : Below w.heap.size w (w.alloc (.cells #[.slice none 0 0, .int .i64 0] 66)) := (Below.refl _ _).alloc (Nat.le_refl _) _
  have hb2 : ∀ cs, Below w.heap.size w ((w.alloc (.cells #[.slice none 0 0, .int .i64 0] 66)).alloc cs) := fun cs => hb1.alloc (by simp) _
  have HB1 := Lib.hid hb1
  have HB2 := Lib.hid hb2
  clear hb2
  unfold AskP askV askE
  cases hn : numB id with
  | false =>
    rw [hn] at NA
    rw [if_neg (by decide), if_neg (by decide)]
    clear h hn hb1
    go_enter Try.func28, Try.ntmps28
    go_wp2_with (go_at_call 48; refine (NA.out _).mono ?_; rintro e w1 ⟨rfl, rfl⟩)
    refine bodyPost_ret (v := .tuple #[.agg #[.slice none 0 0, .int .i64 0], .int .i64 1]) ?_ rfl ⟨rfl, HB1.out⟩
    rw [results_cell_tmp rfl]
    go_simp
  | true =>
    rw [hn] at NA
    rw [if_pos rfl, if_pos rfl]
    have b2 := (hb1.cell (p := ⟨b, 2, none⟩) (h.few _ h.fb)).trans (cells_at h.blk 2)
    cases hi : idxO l id with
    | none =>
      have hlk : (Instr.lookup 58 (.map (some mb)) (.int .i64 id) true).run Try.prog (w.alloc (.cells #[.slice none 0 0, .int .i64 0] 66)) = .ok (.tuple #[.agg #[.slice none 0 0, .int .i64 0], .bool false]) (w.alloc (.cells #[.slice none 0 0, .int .i64 0] 66)) := by
        rw [(h.below hb1).look hn]
        unfold msgAt
        rw [hi]
        rfl
      have hv : msgAt loc l id = .agg #[.slice none 0 0, .int .i64 0] := by unfold msgAt; rw [hi]; rfl
      rw [hv]
      simp only
      clear h hn hi hv
      go_enter Try.func28, Try.ntmps28
      go_wp2_with (go_at_call 48; refine (NA.out _).mono ?_; rintro e w1 ⟨rfl, rfl⟩)
      refine bodyPost_ret (v := .tuple #[.agg #[.slice none 0 0, .int .i64 0], .int .i64 8]) ?_ rfl ⟨rfl, HB2.out _⟩
      rw [results_cell_tmp rfl]
      go_simp
    | some i =>
      obtain ⟨hil, _, _⟩ := idxO_lt hi
      have hlk : (Instr.lookup 58 (.map (some mb)) (.int .i64 id) true).run Try.prog (w.alloc (.cells #[.slice none 0 0, .int .i64 0] 66)) = .ok (.tuple #[.agg #[.slice (some ⟨(loc id).1, 0, none⟩) l[i].body.size (loc id).2, .int .i64 l[i].pieces], .bool true]) (w.alloc (.cells #[.slice none 0 0, .int .i64 0] 66)) := by
        rw [(h.below hb1).look hn]
        unfold msgAt
        rw [hi]
        simp only [getD_at hil]
        rfl
      have hv : msgAt loc l id = .agg #[.slice (some ⟨(loc id).1, 0, none⟩) l[i].body.size (loc id).2, .int .i64 l[i].pieces] := by
        unfold msgAt
        rw [hi]
        simp only [getD_at hil]
        rfl
      rw [hv]
      simp only
      obtain ⟨g, hg⟩ : ∃ g, (loc id).1 = g := ⟨_, rfl⟩
      obtain ⟨cp, hcp⟩ : ∃ cp, (loc id).2 = cp := ⟨_, rfl⟩
      obtain ⟨n, hnn⟩ : ∃ n, l[i].body.size = n := ⟨_, rfl⟩
      obtain ⟨pc, hpc⟩ : ∃ pc, l[i].pieces = pc := ⟨_, rfl⟩
      rw [hg, hcp, hnn, hpc] at hlk ⊢
      clear hg hcp hnn hpc h hn hi hv
      go_enter Try.func28, Try.ntmps28
      go_wp2_with (go_at_call 48; refine (NA.out _).mono ?_; rintro e w1 ⟨rfl, rfl⟩)
      refine bodyPost_ret (v := .tuple #[.agg #[.slice (some ⟨g, 0, none⟩) n cp, .int .i64 pc], .int .i64 0]) ?_ rfl ⟨rfl, ?_⟩
      · rw [results_cell_tmp rfl]
        go_simp
      · exact ((Below.refl _ _).alloc (Nat.le_refl _) _).alloc (by simp) _

theorem ask_none (loc : Int → Nat × Nat) {l : List Op} {id : Int} (h : ¬ askE l id = 0) : askV loc l id = .agg #[.slice none 0 0, .int .i64 0] ∧ cancelE l id = askE l id ∧ cancelL l id = l ∧ held l id = ⟨⟨#[]⟩, 0, askE l id⟩ := by
  cases hn : numB id with
  | false =>
    unfold askV cancelE cancelL held askE
    simp only [hn]
    exact ⟨rfl, rfl, rfl, rfl⟩
  | true =>
    cases hi : idxO l id with
    | none =>
      unfold askV cancelE cancelL held askE msgAt
      simp only [hn, hi, if_true]
      exact ⟨rfl, trivial, trivial, trivial⟩
    | some i =>
      unfold askE at h
      simp only [hn, hi] at h
      exact absurd rfl h

theorem ask_some (loc : Int → Nat × Nat) {l : List Op} {id : Int} (h : askE l id = 0) : numB id = true ∧ ∃ i, ∃ hi : i < l.length, idxO l id = some i ∧ askV loc l id = .agg #[.slice (some ⟨(loc id).1, 0, none⟩) l[i].body.size (loc id).2, .int .i64 l[i].pieces] ∧ cancelE l id = 0 ∧ cancelL l id = dropO l id ∧ held l id = ⟨l[i].body, l[i].pieces, 0⟩ := by
  unfold askE at h
  cases hn : numB id with
  | false => rw [hn, if_neg (by decide)] at h; cases h
  | true =>
    refine ⟨rfl, ?_⟩
    rw [hn, if_pos rfl] at h
    cases hi : idxO l id with
    | none => rw [hi] at h; cases h
    | some i =>
      obtain ⟨hil, _, _⟩ := idxO_lt hi
      refine ⟨i, hil, rfl, ?_, ?_, ?_, ?_⟩
      · unfold askV msgAt
        simp only [hn, hi, getD_at hil]
        rfl
      · unfold cancelE
        simp only [hn, hi]
        rfl
      · unfold cancelL dropO
        simp only [hn, hi]
        rfl
      · unfold held
        simp only [hn, hi, getD_at hil]
        rfl

set_option maxRecDepth 100000 in
set_option maxHeartbeats 2000000 in
theorem fcancel_any (b mb : Nat) (most room : Int) (D : DataW Unit) (loc : Int → Nat × Nat) (l : List Op) (id : Int) (F : Nat → Prop) (w : World) (h : FJ w F b mb most room D loc l) (ok : OpsOk most l) (hm : limB most room = true) :
    Calls Try.prog 10 #[.pointer (some ⟨b, 0, none⟩), .int .i64 id] w fun e w' => e = .returned (.int .i64 (cancelE l id)) ∧ FStep w F b most room (cancelL l id) w' := by
  have AQ := Lib.hid (asked_any b mb most room D loc l id F w h)
  have HS := Lib.hid fun wx (hx : Below w.heap.size w wx) => FStep.same h hx
  by_cases h0 : askE l id = 0
  · obtain ⟨hn, i, hi, hq1, hv, h1, h2, hq2⟩ := ask_some loc h0
    clear hq1 hq2
    have FG := Lib.hid fun wx (hx : Below w.heap.size w wx) => forget_any b mb most room D loc l id F wx (h.below hx) ok hm hn
    unfold AskP at AQ
    rw [h0, hv] at AQ
    rw [h1, h2]
    obtain ⟨g, hg⟩ : ∃ g, (loc id).1 = g := ⟨_, rfl⟩
    obtain ⟨cp, hcp⟩ : ∃ cp, (loc id).2 = cp := ⟨_, rfl⟩
    obtain ⟨n, hnn⟩ : ∃ n, l[i].body.size = n := ⟨_, rfl⟩
    obtain ⟨pc, hpc⟩ : ∃ pc, l[i].pieces = pc := ⟨_, rfl⟩
    rw [hg, hcp, hnn, hpc] at AQ
    clear h ok hm hn hi hv h1 h2 hg hcp hnn hpc h0
    go_enter Try.func10, Try.ntmps10
    go_wp2_with (first
      | (go_at_call 28; refine AQ.out.mono ?_; rintro e w1 ⟨rfl, hb1⟩; have HB2 := Lib.hid (hb1.alloc hb1.size (.cells #[.slice (some ⟨g, 0, none⟩) n cp, .int .i64 pc] 66)); clear hb1)
      | (go_at_call 29; refine (FG.out _ HB2.out).mono ?_; rintro e w3 ⟨rfl, hs⟩; have HF := Lib.hid (FStep.after HB2.out hs); clear hs))
    go_ret
    exact ⟨rfl, HF.out⟩
  · obtain ⟨hv, h1, h2, _⟩ := ask_none loc h0
    unfold AskP at AQ
    rw [hv] at AQ
    rw [h1, h2]
    obtain ⟨er, her⟩ : ∃ er, askE l id = er := ⟨_, rfl⟩
    rw [her] at AQ h0 ⊢
    have e1 : decide (er = 0) = false := decide_eq_false h0
    clear h ok hm hv h1 h2 her
    go_enter Try.func10, Try.ntmps10
    go_wp2_with (go_at_call 28; refine AQ.out.mono ?_; rintro e w1 ⟨rfl, hb1⟩; have HB2 := Lib.hid (hb1.alloc hb1.size (.cells #[.slice none 0 0, .int .i64 0] 66)); clear hb1)
    go_ret
    exact ⟨rfl, HS.out _ HB2.out⟩

set_option maxRecDepth 100000 in
set_option maxHeartbeats 2000000 in
theorem fheld_any (b mb : Nat) (most room : Int) (D : DataW Unit) (loc : Int → Nat × Nat) (l : List Op) (id : Int) (F : Nat → Prop) (w : World) (h : FJ w F b mb most room D loc l) :
    Calls Try.prog 12 #[.pointer (some ⟨b, 0, none⟩), .int .i64 id] w (HeldP w (held l id)) := by
  have AQ := Lib.hid (asked_any b mb most room D loc l id F w h)
  by_cases h0 : askE l id = 0
  · obtain ⟨hn, i, hi, hix, hv, _, _, h3⟩ := ask_some loc h0
    have hid : l[i].id = id := (idxO_lt hix).2.1
    have hrow := h.row l[i] (List.getElem_mem hi)
    rw [hid] at hrow
    unfold AskP at AQ
    rw [h0, hv] at AQ
    rw [h3]
    obtain ⟨g, hg⟩ : ∃ g, (loc id).1 = g := ⟨_, rfl⟩
    obtain ⟨cp, hcp⟩ : ∃ cp, (loc id).2 = cp := ⟨_, rfl⟩
    obtain ⟨s, hs⟩ : ∃ s, l[i].body = s := ⟨_, rfl⟩
    obtain ⟨pc, hpc⟩ : ∃ pc, l[i].pieces = pc := ⟨_, rfl⟩
    rw [hg, hcp, hs, hpc] at AQ
    rw [hg, hcp, hs] at hrow
    rw [hs, hpc]
    have HCV : Hid (∀ wx, Below w.heap.size w wx → (convert 64 9 (.slice (some ⟨g, 0, none⟩) s.size cp)).run Try.prog wx = .ok (.string s) wx) := Lib.hid fun wx hx => (hrow.keep (hx.block _ hrow.lt)).text
    clear h hn hi hix hv h3 hid hg hcp hs hpc h0 hrow
    go_enter Try.func12, Try.ntmps12
    go_wp2_with (go_at_call 28; refine AQ.out.mono ?_; rintro e w1 ⟨rfl, hb1⟩; have HB2 := Lib.hid (hb1.alloc hb1.size (.cells #[.slice (some ⟨g, 0, none⟩) s.size cp, .int .i64 pc] 66)); clear hb1)
    have hcv : ∀ d, (convert 64 9 (.slice (some ⟨g, 0, none⟩) s.size cp)).run Try.prog ((w1.alloc (.cells #[.slice (some ⟨g, 0, none⟩) s.size cp, .int .i64 pc] 66)).drewN d) = .ok (.string s) ((w1.alloc (.cells #[.slice (some ⟨g, 0, none⟩) s.size cp, .int .i64 pc] 66)).drewN d) := fun d => HCV.out _ (HB2.out.trans ((below_drewN' _ d).mono HB2.out.size))
    go_quiet (fail)
    go_wp2_with fail
    go_ret3
    exact ⟨rfl, HB2.out.trans ((below_drewN' _ _).mono HB2.out.size)⟩
  · obtain ⟨hv, _, _, h3⟩ := ask_none loc h0
    unfold AskP at AQ
    rw [hv] at AQ
    rw [h3]
    obtain ⟨er, her⟩ : ∃ er, askE l id = er := ⟨_, rfl⟩
    rw [her] at AQ ⊢
    have HCV : Hid (∀ wx : World, (convert 64 9 (.slice none 0 0)).run Try.prog wx = .ok (.string ⟨#[]⟩) wx) := Lib.hid fun wx => Lib.run_convert_nil_bytes wx 64 9 5 0 Try.underlying64 Try.underlying5 Try.underlying9
    clear h hv h3 her h0
    go_enter Try.func12, Try.ntmps12
    go_wp2_with (go_at_call 28; refine AQ.out.mono ?_; rintro e w1 ⟨rfl, hb1⟩; have HB2 := Lib.hid (hb1.alloc hb1.size (.cells #[.slice none 0 0, .int .i64 0] 66)); clear hb1)
    have hcv : ∀ d, (convert 64 9 (.slice none 0 0)).run Try.prog ((w1.alloc (.cells #[.slice none 0 0, .int .i64 0] 66)).drewN d) = .ok (.string ⟨#[]⟩) ((w1.alloc (.cells #[.slice none 0 0, .int .i64 0] 66)).drewN d) := fun d => HCV.out _
    go_quiet (fail)
    go_wp2_with fail
    go_ret3
    exact ⟨rfl, HB2.out.trans ((below_drewN' _ _).mono HB2.out.size)⟩

set_option maxHeartbeats 1000000 in
theorem fbytes_any (b mb : Nat) (most room : Int) (D : DataW Unit) (loc : Int → Nat × Nat) (l : List Op) (F : Nat → Prop) (w : World) (h : FJ w F b mb most room D loc l) :
    Calls Try.prog 21 #[.pointer (some ⟨b, 0, none⟩)] w fun e w' => e = .returned (.int .i64 (bytesO l)) ∧ Below w.heap.size w w' := by
  have b3 : w.cell? ⟨b, 3, none⟩ = some (.int .i64 (bytesO l)) := cells_at h.blk 3
  clear h
  go_enter Try.func21, Try.ntmps21
  go_wp2_with fail
  go_ret
  exact ⟨rfl, Below.refl _ _⟩

end Go.Proofs.Yteblbpdpfegooaa
