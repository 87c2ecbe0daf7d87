/- frag's Take of a message that is held; Take whole. -/
import Derived.Test.YteblbpdpfegooaaJp
namespace Go.Proofs.Yteblbpdpfegooaa
open Go.RowKit Go.Sort Go.BigFrame Go.Maps
attribute [local go_sem ↓] Go.wp_at_zero Go.wp_at_succ

/-- What a store of a message may write of the old blocks. -/
def putX (b mb : Nat) (loc : Int → Nat × Nat) (l : List Op) (id : Int) (k : Nat) : Prop := k = b ∨ k = mb ∨ (id ∈ idsO l ∧ k = (loc id).1)

theorem FStep.put {w wd : World} {F : Nat → Prop} {b mb : Nat} {most room : Int} {D : DataW Unit} {loc : Int → Nat × Nat} {l : List Op} (h : FJ w F b mb most room D loc l) (x : Op) (g cap : Nat) (hbut : But (putX b mb loc l x.id) w wd)
    (hb : wd.heap[b]? = some (joinerO most room mb (bytesO (putO l x)))) (ho : wd.ownsMap Try.prog 3 msgE mb 1000 (D.put (.int .i64 x.id) (msgD g x.body.size cap x.pieces)))
    (hr : RowM wd g cap x.body) (hg : (x.id ∈ idsO l ∧ g = (loc x.id).1) ∨ w.heap.size ≤ g) : FStep w F b most room (putO l x) wd := by
  have hXF : ∀ k, putX b mb loc l x.id k → F k := fun k hk => by
    rcases hk with rfl | rfl | ⟨h1, rfl⟩
    · exact h.fb
    · exact h.fm
    · obtain ⟨y, hy, he⟩ := mem_idsO.1 h1
      rw [← he]
      exact (h.frow y hy).1
  refine ⟨_, mb, _, _, h.put x g cap hb ho hr hg (fun k hk h1 h2 h3 => hbut.block k hk fun e => ?_) hbut.size, fun k hk => ?_, hbut.os, hbut.tape, hbut.output, hbut.size, fun k hk hn => hbut.block k hk fun e => hn (hXF k e)⟩
  · rcases e with e | e | ⟨e1, e2⟩
    · exact h1 e
    · exact h2 e
    · exact h3 e1 e2
  · rcases hk with hk | rfl
    · exact .inl hk
    · rcases hg with ⟨h1, h2⟩ | h1
      · exact .inl (hXF _ (.inr (.inr ⟨h1, h2⟩)))
      · exact .inr h1

/-- On the way to a store: the new body lies in its row; D1 is what the map holds by now, bs the count of bytes. -/
structure Pre (w W : World) (b mb : Nat) (most room : Int) (bs : Int) (D1 : DataW Unit) (loc : Int → Nat × Nat) (l : List Op) (x : Op) (p : Pc) (P M : Nat) (sl : Value) (pc : Int) (g cap : Nat) : Prop where
  blkb : W.heap[b]? = some (joinerO most room mb bs)
  own : W.ownsMap Try.prog 3 msgE mb 1000 D1
  mblk : W.heap[M]? = some (.cells #[sl, .int .i64 pc] 66 (0, 0))
  pblk : W.heap[P]? = some (pcO p.id p.place p.more p.body)
  but : But (putX b mb loc l x.id) w W
  row : RowM W g cap x.body
  hg : (x.id ∈ idsO l ∧ g = (loc x.id).1) ∨ w.heap.size ≤ g
  gM : ¬ g = M
  gb : ¬ g = b
  gm : ¬ g = mb
  bm : ¬ b = mb
  bw : b < w.heap.size
  mw : mb < w.heap.size
  wP : w.heap.size ≤ P
  PM : P < M

section
variable {w W W' : World} {b mb : Nat} {most room : Int} {bs : Int} {D D1 : DataW Unit} {loc : Int → Nat × Nat} {l : List Op} {x : Op} {p : Pc} {P M : Nat} {sl sl' : Value} {pc pc' : Int} {g cap : Nat}

theorem Pre.drew (h : Pre w W b mb most room bs D1 loc l x p P M sl pc g cap) : Pre w W.drew b mb most room bs D1 loc l x p P M sl pc g cap :=
  ⟨h.blkb, h.own, h.mblk, h.pblk, h.but.then_below (show Below W.heap.size W W.drew from below_drewN' W 1), h.row, h.hg, h.gM, h.gb, h.gm, h.bm, h.bw, h.mw, h.wP, h.PM⟩

/-- The open message is written. -/
theorem Pre.set (h : Pre w W b mb most room bs D1 loc l x p P M sl pc g cap) (sl' : Value) (pc' : Int) : Pre w ((W.setCell ⟨M, 0, none⟩ sl').setCell ⟨M, 1, none⟩ (.int .i64 pc')) b mb most room bs D1 loc l x p P M sl' pc' g cap := by
  have hk : ∀ k, ¬ k = M → ((W.setCell ⟨M, 0, none⟩ sl').setCell ⟨M, 1, none⟩ (.int .i64 pc')).heap[k]? = W.heap[k]? := fun k hn => (heap_setCell_other _ ⟨M, 1, none⟩ k _ hn).trans (heap_setCell_other _ ⟨M, 0, none⟩ k _ hn)
  have h1 := h.bw
  have h2 := h.mw
  have h3 := h.wP
  have h4 := h.PM
  refine ⟨(hk b (by omega)).trans h.blkb, ownsMap_keep h.own (hk mb (by omega)), heap_setCell_same _ M 1 _ 66 _ (heap_setCell_same _ M 0 _ 66 _ h.mblk), (hk P (by omega)).trans h.pblk, ?_, h.row.keep (hk g h.gM), h.hg, h.gM, h.gb, h.gm, h.bm, h.bw, h.mw, h.wP, h.PM⟩
  have e1 : But (fun k => k = M) W (W.setCell ⟨M, 0, none⟩ sl') := But.setCell W _ _ rfl
  have e2 : But (fun k => k = M) (W.setCell ⟨M, 0, none⟩ sl') ((W.setCell ⟨M, 0, none⟩ sl').setCell ⟨M, 1, none⟩ (.int .i64 pc')) := But.setCell _ _ _ rfl
  exact h.but.trans (e1.trans e2 fun _ g => .inl g) fun i hi => .inr (by omega)

/-- The map is written. -/
theorem Pre.turn (h : Pre w W b mb most room bs D1 loc l x p P M sl pc g cap) (ho : W'.ownsMap Try.prog 3 msgE mb 1000 D) (ht : W.mapTurned W' mb) : Pre w W' b mb most room bs D loc l x p P M sl pc g cap := by
  have hg := ht.grown
  have h1 := h.bw
  have h2 := h.mw
  have h3 := h.wP
  have h4 := h.PM
  have hk : ∀ k, ¬ k = mb → k < W.heap.size → W'.heap[k]? = W.heap[k]? := fun k hn hl => hg.block k hl fun e => hn (Option.some.inj e)
  have hlt : ∀ {k : Nat} {o : Obj}, W.heap[k]? = some o → k < W.heap.size := fun e => (Array.getElem?_eq_some_iff.1 e).1
  exact ⟨(hk b h.bm (hlt h.blkb)).trans h.blkb, ho, (hk M (by omega) (hlt h.mblk)).trans h.mblk, (hk P (by omega) (hlt h.pblk)).trans h.pblk, h.but.trans (But.of_grown (F := fun k => k = mb) hg fun k e => (Option.some.inj e).symm) fun i hi => .inl (.inr (.inl hi)), h.row.keep (hk g h.gm h.row.lt), h.hg, h.gM, h.gb, h.gm, h.bm, h.bw, h.mw, h.wP, h.PM⟩

/-- The count is written: the end. -/
theorem Pre.fin {F : Nat → Prop} (h : Pre w W b mb most room bs (D.put (.int .i64 x.id) (msgD g x.body.size cap x.pieces)) loc l x p P M sl pc g cap) (hj : FJ w F b mb most room D loc l) (n : Int) (hn : n = (bytesO (putO l x) : Int)) : FStep w F b most room (putO l x) (W.setCell ⟨b, 3, none⟩ (.int .i64 n)).drew := by
  have hk : ∀ k, ¬ k = b → (W.setCell ⟨b, 3, none⟩ (.int .i64 n)).drew.heap[k]? = W.heap[k]? := fun k hn => heap_setCell_other _ ⟨b, 3, none⟩ k _ hn
  refine FStep.put hj x g cap ?_ ?_ (ownsMap_keep h.own (hk mb fun e => h.bm e.symm)) (h.row.keep (hk g h.gb)) h.hg
  · have e1 : But (fun k => k = b) W (W.setCell ⟨b, 3, none⟩ (.int .i64 n)) := But.setCell W _ _ rfl
    exact (h.but.trans e1 fun i hi => .inl (.inl hi)).then_below (below_drewN' _ 1)
  · have h1 := heap_setCell_same W b 3 _ 60 (.int .i64 n) h.blkb
    rw [hn] at h1 ⊢
    exact h1
end

/-- '[]byte(s)'. -/
theorem conv_new (w : World) (s : ByteArray) : ∃ cp w', (convert 9 64 (.string s)).run Try.prog w = .ok (.slice (some ⟨w.heap.size, 0, none⟩) s.size cp) w' ∧ s.size ≤ cp ∧ (s.size ≤ maxLen → RowM w' w.heap.size s.size s) ∧ Below w.heap.size w w' ∧ w.heap.size < w'.heap.size := by
  refine ⟨_, _, run_bytes_of_string w 9 64 5 s Try.underlying9 Try.underlying64 Try.underlying5, grownCap_ge w s.size 0 5, fun hm => ⟨_, _, heap_alloc_new w.drew _, Nat.le_refl _, hm, ?_, .inl rfl⟩, (show Below w.heap.size w w.drew from below_drewN' w 1).alloc (Nat.le_refl _) _, by simp⟩
  unfold bytesRow Lib.strCells
  have hl : (s.data.toList.map fun b => Value.int .u8 b.toNat).length = s.size := by rw [List.length_map, Array.length_toList]; rfl
  simp only [Array.toList_append, Array.toList_map]
  rw [← hl]
  exact List.take_left

/-- An append whose run is known, at the operation. -/
theorem wpList_grow {w : World} {ops : Array Oper} {rest : List Oper} {o : Oper} {a : Act} {Q : Exit → Act → World → Prop} (hgd : o.guard = none) (sl x : Operand)
    (ho : o.op = .call { callee := .builtin .append, args := #[sl, x], argTypes := #[64, 9] }) (v : Value) (s : ByteArray) (r : Value) (w' : World) (hs : a.eval sl = v) (hx : a.eval x = .string s)
    (hrun : (Builtin.append_ #[64, 9] o.type #[v, .string s]).run Try.prog w = .ok r w') (h : wpList Try.prog ops Q rest (a.put o.dst r) w') : wpList Try.prog ops Q (o :: rest) a w := by
  refine wpList_plain hgd fun K hK => ?_
  unfold Oper.wp execOp
  simp only [ho, resolve, invoke, builtin, Sem.run_bind, Sem.run_pure, Result.andThen_ok, List.map_toArray, List.map_cons, List.map_nil, hs, hx, hrun]
  exact hK _ _ h

/-- What the store's region reads. -/
structure PtS (W : World) (b mb P M : Nat) (id : Int) (sl : Value) (pc : Int) : Prop where
  b2 : W.cell? ⟨b, 2, none⟩ = some (.map (some mb))
  p0 : W.cell? ⟨P, 0, none⟩ = some (.int .i64 id)
  m0 : W.cell? ⟨M, 0, none⟩ = some sl
  m1 : W.cell? ⟨M, 1, none⟩ = some (.int .i64 pc)

/-- What the count's region reads. -/
structure PbS (W : World) (b P : Nat) (bs : Int) (bd : ByteArray) : Prop where
  b3 : W.cell? ⟨b, 3, none⟩ = some (.int .i64 bs)
  p3 : W.cell? ⟨P, 3, none⟩ = some (.string bd)

set_option maxRecDepth 100000 in
set_option maxHeartbeats 4000000 in
theorem ftake_n6 (b mb : Nat) (most room : Int) (D : DataW Unit) (loc : Int → Nat × Nat) (l : List Op) (p : Pc) (F : Nat → Prop) (w : World) (h : FJ w F b mb most room D loc l) (ok : OpsOk most l) (hm : limB most room = true) (hv : vP p = true) (hn : idxO l p.id = none) (hp : p.place = 0) (hmo : p.more = true) (hs : ¬ room < (bytesO l : Int) + (p.body.size : Int)) (hq : ¬ most ≤ (l.length : Int)) :
    Calls Try.prog 17 #[.pointer (some ⟨b, 0, none⟩), .agg #[.int .i64 p.id, .int .i64 p.place, .bool p.more, .string p.body]] w (FTakeP w F b most room (took most room l p)) := by
  obtain ⟨i, pl, m, bd⟩ := p
  simp only at *
  obtain ⟨hm1, hm2, hm3, hm4⟩ := limB_spec hm
  have hpb := vP_body hv
  simp only at hpb
  have hid : numB i = true := by
    have h9 := hv
    simp only [vP, Bool.and_eq_true] at h9
    exact h9.1
  obtain ⟨hl, hbs⟩ := h.bound ok hm
  have VA := Lib.hid fun wx => valid_any i pl m bd wx
  rw [hv] at VA
  have HJ := Lib.hid h
  have FG := Lib.hid fun wx (hx : FJ wx F b mb most room D loc l) => forget_full b mb most room D loc l i F wx hx ok hm hid
  subst hmo
  have hr : took most room l ⟨i, pl, true, bd⟩ = ⟨putO l ⟨i, 1, bd⟩, ⟨#[]⟩, false, 0⟩ := by
    unfold took
    rw [if_pos hv]
    simp only [hn, tookN]
    simp [hp, hs, hq, putO, hn]
  rw [hr]
  have hlk : ∀ wx, Below w.heap.size w wx → (Instr.lookup 58 (.map (some mb)) (.int .i64 i) true).run Try.prog wx = .ok (.tuple #[.agg #[.slice none 0 0, .int .i64 0], .bool false]) wx := fun wx hx => by
    rw [(h.below hx).look hid]
    unfold msgAt
    rw [hn]
    rfl
  subst hp
  have HSUM : Hid ((bytesO l : Int) + (bd.size : Int) = (bytesO (putO l ⟨i, 1, bd⟩) : Int)) := Lib.hid (by unfold putO; simp only [hn]; rw [bytesO_append]; simp [bytesO])
  obtain ⟨S, hS⟩ : ∃ S, bytesO l = S := ⟨_, rfl⟩
  have HSS := Lib.hid hS
  rw [hS] at hs hbs HSUM
  have HKEY := Lib.hid (keyOf_num hid)
  have HSZ : Hid (Maps.size D ≤ 100) := Lib.hid (by rw [h.size]; exact hl)
  have HBD : Hid (bd.size ≤ 65536) := Lib.hid hpb
  have e2 : decide ((65536 : Int) < (bd.size : Int)) = false := decide_eq_false (by omega)
  have e3 : decide (room < (S : Int) + (bd.size : Int)) = false := decide_eq_false hs
  have hz : (S : Int) + (bd.size : Int) ≤ 10000000 := by omega
  have hzw : IntKind.i64.wrap ((S : Int) + (bd.size : Int)) = (S : Int) + (bd.size : Int) := IntWalk.i64_in _ (by omega)
  have hlm : ¬ (l.length : Int) = most := by omega
  have e4 : decide ((l.length : Int) = most) = false := decide_eq_false hlm
  clear h hm hm1 hm2 hm3 hm4 hl hv hr hn ok hpb hid hbs hs hS hq
  have HLK := Lib.hid hlk
  clear hlk
  go_enter Try.func17, Try.ntmps17
  go_wp2_with (go_at_call 32; refine (VA.out _).mono ?_; rintro e w2 ⟨rfl, hb2⟩; have HB2 : Hid (Below w.heap.size w w2) := Lib.hid (((Below.refl _ _).alloc (Nat.le_refl _) (pcO i 0 true bd)).trans (hb2.mono (by simp))); have hp2 : w2.heap[w.heap.size]? = some (pcO i 0 true bd) := (hb2.block _ (by simp)).trans (heap_alloc_new _ _); have HP2 := Lib.hid hp2; clear hb2 hp2)
  have hS : LkS w2.drew b mb w.heap.size i (.agg #[.slice none 0 0, .int .i64 0]) false := ⟨(HB2.out.cell (p := ⟨b, 2, none⟩) (HJ.out.few _ HJ.out.fb)).trans (cells_at HJ.out.blk 2), cells_at HP2.out 0, HLK.out _ (HB2.out.trans ((show Below w2.heap.size w2 w2.drew from below_drewN' w2 1).mono HB2.out.size))⟩
  refine wp_region_C (S := fun W => LkS W b mb w.heap.size i (.agg #[.slice none 0 0, .int .i64 0]) false) (c := 11) (by kernel_rfl) ?_
  refine takeC 3 (i := 0) (d := 19) (v := .pointer (some ⟨b, 0, none⟩)) rfl rfl (by kernel_rfl) (by kernel_rfl) (by kernel_rfl) (by decide) (by kernel_rfl) (fun _ _ _ h => h) (by rfl) (by (rintro w ⟨b2, p0, lk⟩; go_simp)) hS ?_
  simp only [List.setIfInBounds_toArray, List.set_cons_zero, List.set_cons_succ]
  refine takeC 3 (i := 1) (d := 20) (v := .pointer (some ⟨b, 0, none⟩)) rfl rfl (by kernel_rfl) (by kernel_rfl) (by kernel_rfl) (by decide) (by kernel_rfl) (fun _ _ _ h => h) (by rfl) (by (rintro w ⟨b2, p0, lk⟩; go_simp)) hS ?_
  simp only [List.setIfInBounds_toArray, List.set_cons_zero, List.set_cons_succ]
  refine takeC 3 (i := 2) (d := 21) (v := .pointer (some ⟨b, 2, none⟩)) rfl rfl (by kernel_rfl) (by kernel_rfl) (by kernel_rfl) (by decide) (by kernel_rfl) (fun _ _ _ h => h) (by rfl) (by (rintro w ⟨b2, p0, lk⟩; go_simp)) hS ?_
  simp only [List.setIfInBounds_toArray, List.set_cons_zero, List.set_cons_succ]
  refine takeC 3 (i := 3) (d := 22) (v := .map (some mb)) rfl rfl (by kernel_rfl) (by kernel_rfl) (by kernel_rfl) (by decide) (by kernel_rfl) (fun _ _ _ h => h) (by rfl) (by (rintro w ⟨b2, p0, lk⟩; go_simp)) hS ?_
  simp only [List.setIfInBounds_toArray, List.set_cons_zero, List.set_cons_succ]
  refine takeC 3 (i := 4) (d := 23) (v := .pointer (some ⟨w.heap.size, 0, none⟩)) rfl rfl (by kernel_rfl) (by kernel_rfl) (by kernel_rfl) (by decide) (by kernel_rfl) (fun _ _ _ h => h) (by rfl) (by (rintro w ⟨b2, p0, lk⟩; go_simp)) hS ?_
  simp only [List.setIfInBounds_toArray, List.set_cons_zero, List.set_cons_succ]
  refine takeC 3 (i := 5) (d := 24) (v := .int .i64 i) rfl rfl (by kernel_rfl) (by kernel_rfl) (by kernel_rfl) (by decide) (by kernel_rfl) (fun _ _ _ h => h) (by rfl) (by (rintro w ⟨b2, p0, lk⟩; go_simp)) hS ?_
  simp only [List.setIfInBounds_toArray, List.set_cons_zero, List.set_cons_succ]
  refine takeC 3 (i := 6) (d := 25) (v := .tuple #[.agg #[.slice none 0 0, .int .i64 0], .bool false]) rfl rfl (by kernel_rfl) (by kernel_rfl) (by kernel_rfl) (by decide) (by kernel_rfl) (fun _ _ _ h => h) (by rfl) (by (rintro w ⟨b2, p0, lk⟩; go_simp)) hS ?_
  simp only [List.setIfInBounds_toArray, List.set_cons_zero, List.set_cons_succ]
  refine takeC 3 (i := 7) (d := 18) (v := .tuple #[.agg #[.slice none 0 0, .int .i64 0], .bool false]) rfl rfl (by kernel_rfl) (by kernel_rfl) (by kernel_rfl) (by decide) (by kernel_rfl) (fun _ _ _ h => h) (by rfl) (by (rintro w ⟨b2, p0, lk⟩; go_simp)) hS ?_
  simp only [List.setIfInBounds_toArray, List.set_cons_zero, List.set_cons_succ]
  refine takeC 3 (i := 8) (d := 26) (v := .agg #[.slice none 0 0, .int .i64 0]) rfl rfl (by kernel_rfl) (by kernel_rfl) (by kernel_rfl) (by decide) (by kernel_rfl) (fun _ _ _ h => h) (by rfl) (by (rintro w ⟨b2, p0, lk⟩; go_simp)) hS ?_
  simp only [List.setIfInBounds_toArray, List.set_cons_zero, List.set_cons_succ]
  refine takeA (i := 9) (d := 27) (v := .bool false) rfl rfl (by kernel_rfl) (by kernel_rfl) (by kernel_rfl) (by decide) (fun _ _ _ h => h) (by rfl) (by (intro w; go_simp)) (.inr hS) ?_
  simp only [List.setIfInBounds_toArray, List.set_cons_zero, List.set_cons_succ]
  refine stepU (i := 10) (by kernel_rfl) rfl (fun K hK => ?_)
  rw [if_pos (by rfl)]
  go_simp
  have hx1 : Below w2.heap.size w2 (w2.drew.alloc (.cells #[.slice none 0 0, .int .i64 0] 66)) := ((show Below w2.heap.size w2 w2.drew from below_drewN' w2 1)).alloc (Nat.le_refl _) _
  have hx2 := HB2.out.trans (hx1.mono HB2.out.size)
  have hS2 : LkS (w2.drew.alloc (.cells #[.slice none 0 0, .int .i64 0] 66)) b mb w.heap.size i (.agg #[.slice none 0 0, .int .i64 0]) false := ⟨(hx2.cell (p := ⟨b, 2, none⟩) (HJ.out.few _ HJ.out.fb)).trans (cells_at HJ.out.blk 2), (hx1.cell (p := ⟨w.heap.size, 0, none⟩) (Array.getElem?_eq_some_iff.1 HP2.out).1).trans (cells_at HP2.out 0), HLK.out _ hx2⟩
  refine hK.out _ _ hS2 ?_
  clear hK K
  refine stepC (by kernel_rfl) rfl (fun K hK => ?_)
  rw [if_pos (by rfl)]
  go_simp
  refine hK.out _ _ ?_
  clear hK K hx1 hx2 hS hS2
  refine takeA (i := 12) (d := 8) (v := .bool false) rfl rfl (by kernel_rfl) (by kernel_rfl) (by kernel_rfl) (by decide) (fun _ _ _ h => h) (by rfl) (by (intro w; go_simp)) (.inl (by kernel_rfl)) ?_
  simp only [List.setIfInBounds_toArray, List.set_cons_zero, List.set_cons_succ]
  refine doneC (by kernel_rfl) ?_ _
  have hx3 : Below w2.heap.size w2 (w2.alloc (.cells #[.slice none 0 0, .int .i64 0] 66)).drew := ((Below.refl _ w2).alloc (Nat.le_refl _) _).trans (show Below w2.heap.size (w2.alloc (.cells #[.slice none 0 0, .int .i64 0] 66)) (w2.alloc (.cells #[.slice none 0 0, .int .i64 0] 66)).drew from (below_drewN' _ 1).mono (by simp))
  have T3 : Hid (TkF w (w2.alloc (.cells #[.slice none 0 0, .int .i64 0] 66)).drew F b mb most room D loc l ⟨i, 0, true, bd⟩ w.heap.size w2.heap.size (.slice none 0 0) 0) := Lib.hid ⟨(hx3.block _ (Array.getElem?_eq_some_iff.1 HP2.out).1).trans HP2.out, heap_alloc_new w2 _, HJ.out.below (HB2.out.trans (hx3.mono HB2.out.size)), HB2.out.trans (hx3.mono HB2.out.size), rfl, (Array.getElem?_eq_some_iff.1 HP2.out).1, HJ.out.few⟩
  obtain ⟨M, hM⟩ : ∃ x, w2.heap.size = x := ⟨_, rfl⟩
  rw [hM] at T3 ⊢
  obtain ⟨w3, hw3⟩ : ∃ x, (w2.alloc (.cells #[.slice none 0 0, .int .i64 0] 66)).drew = x := ⟨_, rfl⟩
  rw [hw3] at T3 ⊢
  clear hw3 hM hx3 HP2 HB2 HLK VA
  obtain ⟨p0, p1, p2, p3⟩ := T3.out.cells
  obtain ⟨m0, m1⟩ := T3.out.mcells
  obtain ⟨b0, b1, b2, b3⟩ := T3.out.jcells
  rw [HSS.out] at b3
  go_wp2_with fail
  go_quiet (fail)
  have T3 := Lib.hid (T3.out.next (below_drewN' _ nq))
  obtain ⟨w4, hw4⟩ : ∃ x, w3.drewN nq = x := ⟨_, rfl⟩
  rw [hw4] at T3 ⊢
  clear hw4 p0 p1 p2 p3 m0 m1 b0 b1 b2 b3
  obtain ⟨p0, p1, p2, p3⟩ := T3.out.cells
  obtain ⟨m0, m1⟩ := T3.out.mcells
  obtain ⟨b0, b1, b2, b3⟩ := T3.out.jcells
  have hlen : ∀ ty d, (Builtin.len_ #[58] ty #[.map (some mb)]).run Try.prog (w4.drewN d) = .ok (.int .i64 l.length) (w4.drewN d) := fun ty d => by
    have h9 := T3.out.j.below (below_drewN' w4 d)
    rw [h9.own.len under58 ty, h9.size]
  go_wp2_with fail
  go_quiet (fail)
  have T3 := Lib.hid (T3.out.next (below_drewN' _ nq))
  obtain ⟨w5, hw5⟩ : ∃ x, w4.drewN nq = x := ⟨_, rfl⟩
  rw [hw5] at T3 ⊢
  clear hw5 p0 p1 p2 p3 m0 m1 b0 b1 b2 b3 hlen
  obtain ⟨p0, p1, p2, p3⟩ := T3.out.cells
  obtain ⟨cp, w6, hcv, hcp, hrow6, hb6, hlt6⟩ := conv_new w5 bd
  have hrow6 := hrow6 (by have := HBD.out; unfold maxLen; omega)
  have T4 := T3.out.next hb6
  have Q6 : Hid (Pre w w6 b mb most room (bytesO l) D loc l ⟨i, 1, bd⟩ ⟨i, 0, true, bd⟩ w.heap.size M (.slice none 0 0) 0 w5.heap.size bd.size) := Lib.hid (by
    have h5 := T3.out.below.size
    have h6 := (Array.getElem?_eq_some_iff.1 T3.out.mblk).1
    have h7 := T3.out.old _ T3.out.j.fb
    have h8 := T3.out.old _ T3.out.j.fm
    exact ⟨T4.j.blk, T4.j.own, T4.mblk, T4.blk, But.of_below T4.below, hrow6, .inr h5, by omega, by omega, by omega, T4.j.ne, h7, h8, Nat.le_refl _, T4.lt⟩)
  rw [HSS.out] at Q6
  obtain ⟨m0, m1⟩ := T4.mcells
  obtain ⟨q0, q1, q2, q3⟩ := T4.cells
  have fm0 : w6.frozen? ⟨M, 0, none⟩ = false := frozen_at T4.mblk 0
  have fm1 : w6.frozen? ⟨M, 1, none⟩ = false := frozen_at T4.mblk 1
  have hc1 : (bd.size : Int) ≤ (cp : Int) := by omega
  have hc0 : (0 : Int) ≤ (bd.size : Int) := by omega
  clear hcp hrow6 hb6 hlt6 T4
  go_wp2_with fail
  have Q7 := Lib.hid (Q6.out.set (.slice (some ⟨w5.heap.size, 0, none⟩) bd.size bd.size) 1)
  obtain ⟨w7, hw7⟩ : ∃ x, (w6.setCell ⟨M, 0, none⟩ (.slice (some ⟨w5.heap.size, 0, none⟩) bd.size bd.size)).setCell ⟨M, 1, none⟩ (.int .i64 1) = x := ⟨_, rfl⟩
  rw [hw7] at Q7 ⊢
  clear hw7 hcv q0 q1 q2 q3 m0 m1 fm0 fm1 p0 p1 p2 p3
  obtain ⟨w8, hrun, hown8, hturn⟩ := (ownsMap_fit Q7.out.drew.own).store key3 under58 (by have := HSZ.out; unfold maxLen; omega) HKEY.out (msgE_mk w5.heap.size bd.size bd.size 1)
  have Q8 := Lib.hid (Q7.out.drew.turn (hown8.mono (by have := HSZ.out; omega)) hturn)
  have hS7 : PtS w7.drew b mb w.heap.size M i (.slice (some ⟨w5.heap.size, 0, none⟩) bd.size bd.size) 1 := ⟨cells_at Q7.out.blkb 2, cells_at Q7.out.pblk 0, cells_at Q7.out.mblk 0, cells_at Q7.out.mblk 1⟩
  simp only [msgV] at hrun
  clear hown8 hturn
  refine wp_region_C (S := fun W => PtS W b mb w.heap.size M i (.slice (some ⟨w5.heap.size, 0, none⟩) bd.size bd.size) 1) (c := 7) (by kernel_rfl) ?_
  refine takeC 3 (i := 0) (d := 121) (v := .pointer (some ⟨b, 0, none⟩)) rfl rfl (by kernel_rfl) (by kernel_rfl) (by kernel_rfl) (by decide) (by kernel_rfl) (fun _ _ _ h => h) (by rfl) (by (rintro w ⟨b2, p0, m0, m1⟩; go_simp)) hS7 ?_
  simp only [List.setIfInBounds_toArray, List.set_cons_zero, List.set_cons_succ]
  refine takeC 3 (i := 1) (d := 122) (v := .pointer (some ⟨b, 0, none⟩)) rfl rfl (by kernel_rfl) (by kernel_rfl) (by kernel_rfl) (by decide) (by kernel_rfl) (fun _ _ _ h => h) (by rfl) (by (rintro w ⟨b2, p0, m0, m1⟩; go_simp)) hS7 ?_
  simp only [List.setIfInBounds_toArray, List.set_cons_zero, List.set_cons_succ]
  refine takeC 3 (i := 2) (d := 123) (v := .pointer (some ⟨b, 2, none⟩)) rfl rfl (by kernel_rfl) (by kernel_rfl) (by kernel_rfl) (by decide) (by kernel_rfl) (fun _ _ _ h => h) (by rfl) (by (rintro w ⟨b2, p0, m0, m1⟩; go_simp)) hS7 ?_
  simp only [List.setIfInBounds_toArray, List.set_cons_zero, List.set_cons_succ]
  refine takeC 3 (i := 3) (d := 124) (v := .map (some mb)) rfl rfl (by kernel_rfl) (by kernel_rfl) (by kernel_rfl) (by decide) (by kernel_rfl) (fun _ _ _ h => h) (by rfl) (by (rintro w ⟨b2, p0, m0, m1⟩; go_simp)) hS7 ?_
  simp only [List.setIfInBounds_toArray, List.set_cons_zero, List.set_cons_succ]
  refine takeC 3 (i := 4) (d := 125) (v := .pointer (some ⟨w.heap.size, 0, none⟩)) rfl rfl (by kernel_rfl) (by kernel_rfl) (by kernel_rfl) (by decide) (by kernel_rfl) (fun _ _ _ h => h) (by rfl) (by (rintro w ⟨b2, p0, m0, m1⟩; go_simp)) hS7 ?_
  simp only [List.setIfInBounds_toArray, List.set_cons_zero, List.set_cons_succ]
  refine takeC 3 (i := 5) (d := 126) (v := .int .i64 i) rfl rfl (by kernel_rfl) (by kernel_rfl) (by kernel_rfl) (by decide) (by kernel_rfl) (fun _ _ _ h => h) (by rfl) (by (rintro w ⟨b2, p0, m0, m1⟩; go_simp)) hS7 ?_
  simp only [List.setIfInBounds_toArray, List.set_cons_zero, List.set_cons_succ]
  refine takeC 3 (i := 6) (d := 127) (v := .agg #[.slice (some ⟨w5.heap.size, 0, none⟩) bd.size bd.size, .int .i64 1]) rfl rfl (by kernel_rfl) (by kernel_rfl) (by kernel_rfl) (by decide) (by kernel_rfl) (fun _ _ _ h => h) (by rfl) (by (rintro w ⟨b2, p0, m0, m1⟩; go_simp)) hS7 ?_
  simp only [List.setIfInBounds_toArray, List.set_cons_zero, List.set_cons_succ]
  refine stepC (by kernel_rfl) rfl (fun K hK => ?_)
  rw [if_pos (by rfl)]
  go_simp
  refine hK.out _ _ ?_
  clear hK K hrun hS7
  refine doneC (by kernel_rfl) ?_ _
  have hS8 : PbS w8.drew b w.heap.size S bd := ⟨cells_at Q8.out.blkb 3, cells_at Q8.out.pblk 3⟩
  have b3 : w8.cell? ⟨b, 3, none⟩ = some (.int .i64 S) := cells_at Q8.out.blkb 3
  have rf : w8.frozen? ⟨b, 3, none⟩ = false := frozen_at (g := b) Q8.out.blkb 3
  have HQ := Lib.hid (Q8.out.fin HJ.out _ HSUM.out)
  go_wp2_with fail
  refine wp_region_C (S := fun W => PbS W b w.heap.size S bd) (c := 10) (by kernel_rfl) ?_
  refine takeC 3 (i := 0) (d := 128) (v := .pointer (some ⟨b, 0, none⟩)) rfl rfl (by kernel_rfl) (by kernel_rfl) (by kernel_rfl) (by decide) (by kernel_rfl) (fun _ _ _ h => h) (by rfl) (by (rintro w ⟨b3, p3⟩; go_simp)) hS8 ?_
  simp only [List.setIfInBounds_toArray, List.set_cons_zero, List.set_cons_succ]
  refine takeC 3 (i := 1) (d := 129) (v := .pointer (some ⟨b, 0, none⟩)) rfl rfl (by kernel_rfl) (by kernel_rfl) (by kernel_rfl) (by decide) (by kernel_rfl) (fun _ _ _ h => h) (by rfl) (by (rintro w ⟨b3, p3⟩; go_simp)) hS8 ?_
  simp only [List.setIfInBounds_toArray, List.set_cons_zero, List.set_cons_succ]
  refine takeC 3 (i := 2) (d := 130) (v := .pointer (some ⟨b, 3, none⟩)) rfl rfl (by kernel_rfl) (by kernel_rfl) (by kernel_rfl) (by decide) (by kernel_rfl) (fun _ _ _ h => h) (by rfl) (by (rintro w ⟨b3, p3⟩; go_simp)) hS8 ?_
  simp only [List.setIfInBounds_toArray, List.set_cons_zero, List.set_cons_succ]
  refine takeC 3 (i := 3) (d := 131) (v := .int .i64 S) rfl rfl (by kernel_rfl) (by kernel_rfl) (by kernel_rfl) (by decide) (by kernel_rfl) (fun _ _ _ h => h) (by rfl) (by (rintro w ⟨b3, p3⟩; go_simp)) hS8 ?_
  simp only [List.setIfInBounds_toArray, List.set_cons_zero, List.set_cons_succ]
  refine takeC 3 (i := 4) (d := 132) (v := .pointer (some ⟨w.heap.size, 3, none⟩)) rfl rfl (by kernel_rfl) (by kernel_rfl) (by kernel_rfl) (by decide) (by kernel_rfl) (fun _ _ _ h => h) (by rfl) (by (rintro w ⟨b3, p3⟩; go_simp)) hS8 ?_
  simp only [List.setIfInBounds_toArray, List.set_cons_zero, List.set_cons_succ]
  refine takeC 3 (i := 5) (d := 133) (v := .string bd) rfl rfl (by kernel_rfl) (by kernel_rfl) (by kernel_rfl) (by decide) (by kernel_rfl) (fun _ _ _ h => h) (by rfl) (by (rintro w ⟨b3, p3⟩; go_simp)) hS8 ?_
  simp only [List.setIfInBounds_toArray, List.set_cons_zero, List.set_cons_succ]
  refine takeC 3 (i := 6) (d := 134) (v := .int .i64 (bd.size : Int)) rfl rfl (by kernel_rfl) (by kernel_rfl) (by kernel_rfl) (by decide) (by kernel_rfl) (fun _ _ _ h => h) (by rfl) (by (rintro w ⟨b3, p3⟩; go_simp)) hS8 ?_
  simp only [List.setIfInBounds_toArray, List.set_cons_zero, List.set_cons_succ]
  refine takeC 3 (i := 7) (d := 135) (v := .int .i64 ((S : Int) + (bd.size : Int))) rfl rfl (by kernel_rfl) (by kernel_rfl) (by kernel_rfl) (by decide) (by kernel_rfl) (fun _ _ _ h => h) (by rfl) (by (rintro w ⟨b3, p3⟩; go_simp)) hS8 ?_
  simp only [List.setIfInBounds_toArray, List.set_cons_zero, List.set_cons_succ]
  refine takeC 3 (i := 8) (d := 136) (v := .pointer (some ⟨b, 0, none⟩)) rfl rfl (by kernel_rfl) (by kernel_rfl) (by kernel_rfl) (by decide) (by kernel_rfl) (fun _ _ _ h => h) (by rfl) (by (rintro w ⟨b3, p3⟩; go_simp)) hS8 ?_
  simp only [List.setIfInBounds_toArray, List.set_cons_zero, List.set_cons_succ]
  refine takeC 3 (i := 9) (d := 137) (v := .pointer (some ⟨b, 3, none⟩)) rfl rfl (by kernel_rfl) (by kernel_rfl) (by kernel_rfl) (by decide) (by kernel_rfl) (fun _ _ _ h => h) (by rfl) (by (rintro w ⟨b3, p3⟩; go_simp)) hS8 ?_
  simp only [List.setIfInBounds_toArray, List.set_cons_zero, List.set_cons_succ]
  refine stepC (by kernel_rfl) rfl (fun K hK => ?_)
  rw [if_pos (by rfl)]
  go_simp
  refine hK.out _ _ ?_
  clear hK K hS8
  refine doneC (by kernel_rfl) ?_ _
  go_wp2_with fail
  go_ret3
  exact ⟨rfl, HQ.out⟩

set_option maxRecDepth 100000 in
set_option maxHeartbeats 4000000 in
theorem ftake_s5 (b mb : Nat) (most room : Int) (D : DataW Unit) (loc : Int → Nat × Nat) (l : List Op) (p : Pc) (F : Nat → Prop) (w : World) (h : FJ w F b mb most room D loc l) (ok : OpsOk most l) (hm : limB most room = true) (hv : vP p = true) (k : Nat) (hk : k < l.length) (hn : idxO l p.id = some k) (hp : p.place = l[k].pieces) (hs : ¬ 65536 < l[k].body.size + p.body.size) (hq : ¬ room < (bytesO l : Int) + (p.body.size : Int)) (hmo : p.more = true) (hbz : 0 < p.body.size) :
    Calls Try.prog 17 #[.pointer (some ⟨b, 0, none⟩), .agg #[.int .i64 p.id, .int .i64 p.place, .bool p.more, .string p.body]] w (FTakeP w F b most room (took most room l p)) := by
  obtain ⟨i, pl, m, bd⟩ := p
  simp only at *
  obtain ⟨hm1, hm2, hm3, hm4⟩ := limB_spec hm
  have hpb := vP_body hv
  simp only at hpb
  have hid : numB i = true := by
    have h9 := hv
    simp only [vP, Bool.and_eq_true] at h9
    exact h9.1
  obtain ⟨hl, hbs⟩ := h.bound ok hm
  have VA := Lib.hid fun wx => valid_any i pl m bd wx
  rw [hv] at VA
  have HJ := Lib.hid h
  have FG := Lib.hid fun wx (hx : FJ wx F b mb most room D loc l) => forget_full b mb most room D loc l i F wx hx ok hm hid
  subst hmo
  have hput : l.set k ⟨l[k].id, l[k].pieces + 1, l[k].body ++ bd⟩ = putO l ⟨i, l[k].pieces + 1, l[k].body ++ bd⟩ := by
    unfold putO
    simp only [hn, (idxO_lt hn).2.1]
  have hsum : (bytesO l : Int) + (bd.size : Int) = (bytesO (putO l ⟨i, l[k].pieces + 1, l[k].body ++ bd⟩) : Int) := by
    have h1 := bytesO_set hk ⟨l[k].id, l[k].pieces + 1, l[k].body ++ bd⟩
    rw [hput] at h1
    simp only [ByteArray.size_append] at h1
    omega
  have hmem : i ∈ idsO l := idxO_isSome.1 (by rw [hn]; rfl)
  have hr : took most room l ⟨i, pl, true, bd⟩ = tookS room l ⟨i, pl, true, bd⟩ k l[k] := by
    unfold took
    rw [if_pos hv]
    simp only [hn, getD_at hk]
  rw [hr]
  clear hr
  have hdr : l.eraseIdx k = dropO l i := by unfold dropO; rw [hn]
  have hxb := ok.body l[k] (List.getElem_mem hk)
  have hxp := ok.pieces l[k] (List.getElem_mem hk)
  have hrow := h.row l[k] (List.getElem_mem hk)
  have hxi := (idxO_lt hn).2.1
  have hfr := h.frow l[k] (List.getElem_mem hk)
  rw [hxi] at hrow hfr
  have hlk : ∀ wx, Below w.heap.size w wx → (Instr.lookup 58 (.map (some mb)) (.int .i64 i) true).run Try.prog wx = .ok (.tuple #[.agg #[.slice (some ⟨(loc i).1, 0, none⟩) l[k].body.size (loc i).2, .int .i64 l[k].pieces], .bool true]) wx := fun wx hx => by
    rw [(h.below hx).look hid]
    unfold msgAt
    rw [hn]
    simp only [getD_at hk]
    rfl
  unfold tookS
  simp only [hput]
  clear hdr hxi
  obtain ⟨g, hg⟩ : ∃ g, (loc i).1 = g := ⟨_, rfl⟩
  obtain ⟨cp, hcp⟩ : ∃ cp, (loc i).2 = cp := ⟨_, rfl⟩
  obtain ⟨xb, hbb⟩ : ∃ s, l[k].body = s := ⟨_, rfl⟩
  obtain ⟨xp, hpc⟩ : ∃ pc, l[k].pieces = pc := ⟨_, rfl⟩
  simp only [hcp, hbb, hpc] at *
  rw [hg] at hrow hfr
  simp only [hg] at hlk
  rw [if_neg (fun g => g hp), if_neg (fun g => g.elim hs hq), if_neg (by simp)]
  subst hp
  obtain ⟨S, hS⟩ : ∃ S, bytesO l = S := ⟨_, rfl⟩
  have HSS := Lib.hid hS
  rw [hS] at hq hbs hsum
  have HSUM := Lib.hid hsum
  have HMEM := Lib.hid hmem
  have HKEY := Lib.hid (keyOf_num hid)
  have HSZ : Hid (Maps.size D ≤ 100) := Lib.hid (by rw [h.size]; exact hl)
  have HBD : Hid (xb.size + bd.size ≤ 65536 ∧ 0 < bd.size) := Lib.hid ⟨by omega, hbz⟩
  have HG := Lib.hid hg
  have HFR := Lib.hid hfr
  have HROW := Lib.hid hrow
  have e2 : decide ((65536 : Int) < (xb.size : Int) + (bd.size : Int)) = false := decide_eq_false (by omega)
  have e3 : decide (room < (S : Int) + (bd.size : Int)) = false := decide_eq_false hq
  have hz3 : (S : Int) + (bd.size : Int) ≤ 10000000 := by omega
  have hzw : IntKind.i64.wrap ((S : Int) + (bd.size : Int)) = (S : Int) + (bd.size : Int) := IntWalk.i64_in _ (by omega)
  have hpw : pl + 1 ≤ 2000000 := by omega
  have hp0 : 0 ≤ pl := by omega
  have hz : (xb.size : Int) + (bd.size : Int) ≤ 1000000 := by omega
  clear h hm hm1 hm2 hm3 hm4 hl hv hn ok hpb hid hbs hxb hxp hg hcp hbb hpc hfr hs hq hS hrow hsum hmem hput hbz
  have HLK := Lib.hid hlk
  clear hlk
  go_enter Try.func17, Try.ntmps17
  go_wp2_with (go_at_call 32; refine (VA.out _).mono ?_; rintro e w2 ⟨rfl, hb2⟩; have HB2 : Hid (Below w.heap.size w w2) := Lib.hid (((Below.refl _ _).alloc (Nat.le_refl _) (pcO i pl true bd)).trans (hb2.mono (by simp))); have hp2 : w2.heap[w.heap.size]? = some (pcO i pl true bd) := (hb2.block _ (by simp)).trans (heap_alloc_new _ _); have HP2 := Lib.hid hp2; clear hb2 hp2)
  have hS : LkS w2.drew b mb w.heap.size i (.agg #[.slice (some ⟨g, 0, none⟩) xb.size cp, .int .i64 pl]) true := ⟨(HB2.out.cell (p := ⟨b, 2, none⟩) (HJ.out.few _ HJ.out.fb)).trans (cells_at HJ.out.blk 2), cells_at HP2.out 0, HLK.out _ (HB2.out.trans ((show Below w2.heap.size w2 w2.drew from below_drewN' w2 1).mono HB2.out.size))⟩
  refine wp_region_C (S := fun W => LkS W b mb w.heap.size i (.agg #[.slice (some ⟨g, 0, none⟩) xb.size cp, .int .i64 pl]) true) (c := 11) (by kernel_rfl) ?_
  refine takeC 3 (i := 0) (d := 19) (v := .pointer (some ⟨b, 0, none⟩)) rfl rfl (by kernel_rfl) (by kernel_rfl) (by kernel_rfl) (by decide) (by kernel_rfl) (fun _ _ _ h => h) (by rfl) (by (rintro w ⟨b2, p0, lk⟩; go_simp)) hS ?_
  simp only [List.setIfInBounds_toArray, List.set_cons_zero, List.set_cons_succ]
  refine takeC 3 (i := 1) (d := 20) (v := .pointer (some ⟨b, 0, none⟩)) rfl rfl (by kernel_rfl) (by kernel_rfl) (by kernel_rfl) (by decide) (by kernel_rfl) (fun _ _ _ h => h) (by rfl) (by (rintro w ⟨b2, p0, lk⟩; go_simp)) hS ?_
  simp only [List.setIfInBounds_toArray, List.set_cons_zero, List.set_cons_succ]
  refine takeC 3 (i := 2) (d := 21) (v := .pointer (some ⟨b, 2, none⟩)) rfl rfl (by kernel_rfl) (by kernel_rfl) (by kernel_rfl) (by decide) (by kernel_rfl) (fun _ _ _ h => h) (by rfl) (by (rintro w ⟨b2, p0, lk⟩; go_simp)) hS ?_
  simp only [List.setIfInBounds_toArray, List.set_cons_zero, List.set_cons_succ]
  refine takeC 3 (i := 3) (d := 22) (v := .map (some mb)) rfl rfl (by kernel_rfl) (by kernel_rfl) (by kernel_rfl) (by decide) (by kernel_rfl) (fun _ _ _ h => h) (by rfl) (by (rintro w ⟨b2, p0, lk⟩; go_simp)) hS ?_
  simp only [List.setIfInBounds_toArray, List.set_cons_zero, List.set_cons_succ]
  refine takeC 3 (i := 4) (d := 23) (v := .pointer (some ⟨w.heap.size, 0, none⟩)) rfl rfl (by kernel_rfl) (by kernel_rfl) (by kernel_rfl) (by decide) (by kernel_rfl) (fun _ _ _ h => h) (by rfl) (by (rintro w ⟨b2, p0, lk⟩; go_simp)) hS ?_
  simp only [List.setIfInBounds_toArray, List.set_cons_zero, List.set_cons_succ]
  refine takeC 3 (i := 5) (d := 24) (v := .int .i64 i) rfl rfl (by kernel_rfl) (by kernel_rfl) (by kernel_rfl) (by decide) (by kernel_rfl) (fun _ _ _ h => h) (by rfl) (by (rintro w ⟨b2, p0, lk⟩; go_simp)) hS ?_
  simp only [List.setIfInBounds_toArray, List.set_cons_zero, List.set_cons_succ]
  refine takeC 3 (i := 6) (d := 25) (v := .tuple #[.agg #[.slice (some ⟨g, 0, none⟩) xb.size cp, .int .i64 pl], .bool true]) rfl rfl (by kernel_rfl) (by kernel_rfl) (by kernel_rfl) (by decide) (by kernel_rfl) (fun _ _ _ h => h) (by rfl) (by (rintro w ⟨b2, p0, lk⟩; go_simp)) hS ?_
  simp only [List.setIfInBounds_toArray, List.set_cons_zero, List.set_cons_succ]
  refine takeC 3 (i := 7) (d := 18) (v := .tuple #[.agg #[.slice (some ⟨g, 0, none⟩) xb.size cp, .int .i64 pl], .bool true]) rfl rfl (by kernel_rfl) (by kernel_rfl) (by kernel_rfl) (by decide) (by kernel_rfl) (fun _ _ _ h => h) (by rfl) (by (rintro w ⟨b2, p0, lk⟩; go_simp)) hS ?_
  simp only [List.setIfInBounds_toArray, List.set_cons_zero, List.set_cons_succ]
  refine takeC 3 (i := 8) (d := 26) (v := .agg #[.slice (some ⟨g, 0, none⟩) xb.size cp, .int .i64 pl]) rfl rfl (by kernel_rfl) (by kernel_rfl) (by kernel_rfl) (by decide) (by kernel_rfl) (fun _ _ _ h => h) (by rfl) (by (rintro w ⟨b2, p0, lk⟩; go_simp)) hS ?_
  simp only [List.setIfInBounds_toArray, List.set_cons_zero, List.set_cons_succ]
  refine takeA (i := 9) (d := 27) (v := .bool true) rfl rfl (by kernel_rfl) (by kernel_rfl) (by kernel_rfl) (by decide) (fun _ _ _ h => h) (by rfl) (by (intro w; go_simp)) (.inr hS) ?_
  simp only [List.setIfInBounds_toArray, List.set_cons_zero, List.set_cons_succ]
  refine stepU (i := 10) (by kernel_rfl) rfl (fun K hK => ?_)
  rw [if_pos (by rfl)]
  go_simp
  have hx1 : Below w2.heap.size w2 (w2.drew.alloc (.cells #[.slice none 0 0, .int .i64 0] 66)) := ((show Below w2.heap.size w2 w2.drew from below_drewN' w2 1)).alloc (Nat.le_refl _) _
  have hx2 := HB2.out.trans (hx1.mono HB2.out.size)
  have hS2 : LkS (w2.drew.alloc (.cells #[.slice none 0 0, .int .i64 0] 66)) b mb w.heap.size i (.agg #[.slice (some ⟨g, 0, none⟩) xb.size cp, .int .i64 pl]) true := ⟨(hx2.cell (p := ⟨b, 2, none⟩) (HJ.out.few _ HJ.out.fb)).trans (cells_at HJ.out.blk 2), (hx1.cell (p := ⟨w.heap.size, 0, none⟩) (Array.getElem?_eq_some_iff.1 HP2.out).1).trans (cells_at HP2.out 0), HLK.out _ hx2⟩
  refine hK.out _ _ hS2 ?_
  clear hK K
  refine stepC (by kernel_rfl) rfl (fun K hK => ?_)
  rw [if_pos (by rfl)]
  go_simp
  refine hK.out _ _ ?_
  clear hK K hx1 hx2 hS hS2
  refine takeA (i := 12) (d := 8) (v := .bool true) rfl rfl (by kernel_rfl) (by kernel_rfl) (by kernel_rfl) (by decide) (fun _ _ _ h => h) (by rfl) (by (intro w; go_simp)) (.inl (by kernel_rfl)) ?_
  simp only [List.setIfInBounds_toArray, List.set_cons_zero, List.set_cons_succ]
  refine doneC (by kernel_rfl) ?_ _
  have hx3 : Below w2.heap.size w2 (w2.alloc (.cells #[.slice (some ⟨g, 0, none⟩) xb.size cp, .int .i64 pl] 66)).drew := ((Below.refl _ w2).alloc (Nat.le_refl _) _).trans (show Below w2.heap.size (w2.alloc (.cells #[.slice (some ⟨g, 0, none⟩) xb.size cp, .int .i64 pl] 66)) (w2.alloc (.cells #[.slice (some ⟨g, 0, none⟩) xb.size cp, .int .i64 pl] 66)).drew from (below_drewN' _ 1).mono (by simp))
  have T3 : Hid (TkF w (w2.alloc (.cells #[.slice (some ⟨g, 0, none⟩) xb.size cp, .int .i64 pl] 66)).drew F b mb most room D loc l ⟨i, pl, true, bd⟩ w.heap.size w2.heap.size (.slice (some ⟨g, 0, none⟩) xb.size cp) pl) := Lib.hid ⟨(hx3.block _ (Array.getElem?_eq_some_iff.1 HP2.out).1).trans HP2.out, heap_alloc_new w2 _, HJ.out.below (HB2.out.trans (hx3.mono HB2.out.size)), HB2.out.trans (hx3.mono HB2.out.size), rfl, (Array.getElem?_eq_some_iff.1 HP2.out).1, HJ.out.few⟩
  obtain ⟨M, hM⟩ : ∃ x, w2.heap.size = x := ⟨_, rfl⟩
  rw [hM] at T3 ⊢
  obtain ⟨w3, hw3⟩ : ∃ x, (w2.alloc (.cells #[.slice (some ⟨g, 0, none⟩) xb.size cp, .int .i64 pl] 66)).drew = x := ⟨_, rfl⟩
  rw [hw3] at T3 ⊢
  clear hw3 hM hx3 HP2 HB2 HLK VA
  obtain ⟨p0, p1, p2, p3⟩ := T3.out.cells
  obtain ⟨m0, m1⟩ := T3.out.mcells
  obtain ⟨b0, b1, b2, b3⟩ := T3.out.jcells
  rw [HSS.out] at b3
  go_wp2_with fail
  go_quiet (fail)
  have T3 := Lib.hid (T3.out.next (below_drewN' _ nq))
  obtain ⟨w4, hw4⟩ : ∃ x, w3.drewN nq = x := ⟨_, rfl⟩
  rw [hw4] at T3 ⊢
  clear hw4 p0 p1 p2 p3 m0 m1 b0 b1 b2 b3
  obtain ⟨p0, p1, p2, p3⟩ := T3.out.cells
  go_wp2_with fail
  go_quiet (fail)
  have T3 := Lib.hid (T3.out.next (below_drewN' _ nq))
  obtain ⟨w5, hw5⟩ : ∃ x, w4.drewN nq = x := ⟨_, rfl⟩
  rw [hw5] at T3 ⊢
  clear hw5 p0 p1 p2 p3
  obtain ⟨p0, p1, p2, p3⟩ := T3.out.cells
  obtain ⟨m0, m1⟩ := T3.out.mcells
  obtain ⟨g', cap', wa, happ, hrow6, hgrow, hloc⟩ := run_grow w5 g cp xb bd (HROW.out.keep (T3.out.below.block _ HROW.out.lt)) HBD.out.2 (by have := HBD.out.1; omega) 64
  have hgM : g < w.heap.size ∧ ¬ g = M ∧ ¬ g = w.heap.size := by
    have h5 := HROW.out.lt
    have h6 := T3.out.lt
    omega
  have hk : ∀ {k : Nat} {o : Obj}, w5.heap[k]? = some o → ¬ k = g → wa.heap[k]? = some o := fun e hn => (hgrow.block _ (Array.getElem?_eq_some_iff.1 e).1 fun e' => hn (Option.some.inj e')).trans e
  have hma := hk T3.out.mblk fun e => hgM.2.1 e.symm
  have hpa := hk T3.out.blk fun e => hgM.2.2 e.symm
  have Q6 : Hid (Pre w wa b mb most room (bytesO l) D loc l ⟨i, pl + 1, xb ++ bd⟩ ⟨i, pl, true, bd⟩ w.heap.size M (.slice (some ⟨g, 0, none⟩) xb.size cp) pl g' cap') := Lib.hid (by
    have h5 := T3.out.below.size
    have h6 := (Array.getElem?_eq_some_iff.1 T3.out.mblk).1
    have h7 := T3.out.old _ T3.out.j.fb
    have h8 := T3.out.old _ T3.out.j.fm
    have h9 := HFR.out.2
    refine ⟨hk T3.out.j.blk fun e => h9.1 e.symm, ownsMap_keep T3.out.j.own (hgrow.block _ (by omega) fun e => h9.2 (Option.some.inj e).symm), hma, hpa, ?_, hrow6, ?_, ?_, ?_, ?_, T3.out.j.ne, h7, h8, Nat.le_refl _, T3.out.lt⟩
    · exact (But.of_below T3.out.below).trans (But.of_grown (F := fun k => k = g) hgrow fun k e => (Option.some.inj e).symm) fun k e => .inl (.inr (.inr ⟨HMEM.out, e.trans HG.out.symm⟩))
    · rcases hloc with e | e
      · exact .inl ⟨HMEM.out, e.trans HG.out.symm⟩
      · right; omega
    · rcases hloc with e | e
      · rw [e]; exact hgM.2.1
      · omega
    · rcases hloc with e | e
      · rw [e]; exact h9.1
      · omega
    · rcases hloc with e | e
      · rw [e]; exact h9.2
      · omega)
  rw [HSS.out] at Q6
  have n0 : wa.cell? ⟨M, 0, none⟩ = some (.slice (some ⟨g, 0, none⟩) xb.size cp) := cells_at hma 0
  have n1 : wa.cell? ⟨M, 1, none⟩ = some (.int .i64 pl) := cells_at hma 1
  have fm0 : wa.frozen? ⟨M, 0, none⟩ = false := frozen_at hma 0
  have fm1 : wa.frozen? ⟨M, 1, none⟩ = false := frozen_at hma 1
  have HAPP := Lib.hid happ
  clear happ
  clear hrow6 hgrow hloc hgM hk hma hpa
  go_wp2_with (at_builtin; refine wpList_grow rfl _ _ rfl _ _ _ _ rfl rfl HAPP.out ?_)
  have Q7 := Lib.hid (Q6.out.set (.slice (some ⟨g', 0, none⟩) (xb.size + bd.size) cap') (pl + 1))
  obtain ⟨w7, hw7⟩ : ∃ x, (wa.setCell ⟨M, 0, none⟩ (.slice (some ⟨g', 0, none⟩) (xb.size + bd.size) cap')).setCell ⟨M, 1, none⟩ (.int .i64 (pl + 1)) = x := ⟨_, rfl⟩
  rw [hw7] at Q7 ⊢
  clear hw7 HAPP n0 n1 m0 m1 fm0 fm1 p0 p1 p2 p3
  have HSA : Hid ((xb ++ bd).size = xb.size + bd.size) := Lib.hid ByteArray.size_append
  obtain ⟨w8, hrun, hown8, hturn⟩ := (ownsMap_fit Q7.out.drew.own).store key3 under58 (by have := HSZ.out; unfold maxLen; omega) HKEY.out (msgE_mk g' (xb ++ bd).size cap' (pl + 1))
  have Q8 := Lib.hid (Q7.out.drew.turn (hown8.mono (by have := HSZ.out; omega)) hturn)
  have hS7 : PtS w7.drew b mb w.heap.size M i (.slice (some ⟨g', 0, none⟩) (xb.size + bd.size) cap') (pl + 1) := ⟨cells_at Q7.out.blkb 2, cells_at Q7.out.pblk 0, cells_at Q7.out.mblk 0, cells_at Q7.out.mblk 1⟩
  simp only [msgV] at hrun
  rw [HSA.out] at hrun
  clear hown8 hturn
  refine wp_region_C (S := fun W => PtS W b mb w.heap.size M i (.slice (some ⟨g', 0, none⟩) (xb.size + bd.size) cap') (pl + 1)) (c := 7) (by kernel_rfl) ?_
  refine takeC 3 (i := 0) (d := 121) (v := .pointer (some ⟨b, 0, none⟩)) rfl rfl (by kernel_rfl) (by kernel_rfl) (by kernel_rfl) (by decide) (by kernel_rfl) (fun _ _ _ h => h) (by rfl) (by (rintro w ⟨b2, p0, m0, m1⟩; go_simp)) hS7 ?_
  simp only [List.setIfInBounds_toArray, List.set_cons_zero, List.set_cons_succ]
  refine takeC 3 (i := 1) (d := 122) (v := .pointer (some ⟨b, 0, none⟩)) rfl rfl (by kernel_rfl) (by kernel_rfl) (by kernel_rfl) (by decide) (by kernel_rfl) (fun _ _ _ h => h) (by rfl) (by (rintro w ⟨b2, p0, m0, m1⟩; go_simp)) hS7 ?_
  simp only [List.setIfInBounds_toArray, List.set_cons_zero, List.set_cons_succ]
  refine takeC 3 (i := 2) (d := 123) (v := .pointer (some ⟨b, 2, none⟩)) rfl rfl (by kernel_rfl) (by kernel_rfl) (by kernel_rfl) (by decide) (by kernel_rfl) (fun _ _ _ h => h) (by rfl) (by (rintro w ⟨b2, p0, m0, m1⟩; go_simp)) hS7 ?_
  simp only [List.setIfInBounds_toArray, List.set_cons_zero, List.set_cons_succ]
  refine takeC 3 (i := 3) (d := 124) (v := .map (some mb)) rfl rfl (by kernel_rfl) (by kernel_rfl) (by kernel_rfl) (by decide) (by kernel_rfl) (fun _ _ _ h => h) (by rfl) (by (rintro w ⟨b2, p0, m0, m1⟩; go_simp)) hS7 ?_
  simp only [List.setIfInBounds_toArray, List.set_cons_zero, List.set_cons_succ]
  refine takeC 3 (i := 4) (d := 125) (v := .pointer (some ⟨w.heap.size, 0, none⟩)) rfl rfl (by kernel_rfl) (by kernel_rfl) (by kernel_rfl) (by decide) (by kernel_rfl) (fun _ _ _ h => h) (by rfl) (by (rintro w ⟨b2, p0, m0, m1⟩; go_simp)) hS7 ?_
  simp only [List.setIfInBounds_toArray, List.set_cons_zero, List.set_cons_succ]
  refine takeC 3 (i := 5) (d := 126) (v := .int .i64 i) rfl rfl (by kernel_rfl) (by kernel_rfl) (by kernel_rfl) (by decide) (by kernel_rfl) (fun _ _ _ h => h) (by rfl) (by (rintro w ⟨b2, p0, m0, m1⟩; go_simp)) hS7 ?_
  simp only [List.setIfInBounds_toArray, List.set_cons_zero, List.set_cons_succ]
  refine takeC 3 (i := 6) (d := 127) (v := .agg #[.slice (some ⟨g', 0, none⟩) (xb.size + bd.size) cap', .int .i64 (pl + 1)]) rfl rfl (by kernel_rfl) (by kernel_rfl) (by kernel_rfl) (by decide) (by kernel_rfl) (fun _ _ _ h => h) (by rfl) (by (rintro w ⟨b2, p0, m0, m1⟩; go_simp)) hS7 ?_
  simp only [List.setIfInBounds_toArray, List.set_cons_zero, List.set_cons_succ]
  refine stepC (by kernel_rfl) rfl (fun K hK => ?_)
  rw [if_pos (by rfl)]
  go_simp
  refine hK.out _ _ ?_
  clear hK K hrun hS7
  refine doneC (by kernel_rfl) ?_ _
  have hS8 : PbS w8.drew b w.heap.size S bd := ⟨cells_at Q8.out.blkb 3, cells_at Q8.out.pblk 3⟩
  have b3 : w8.cell? ⟨b, 3, none⟩ = some (.int .i64 S) := cells_at Q8.out.blkb 3
  have rf : w8.frozen? ⟨b, 3, none⟩ = false := frozen_at (g := b) Q8.out.blkb 3
  have HQ := Lib.hid (Q8.out.fin HJ.out _ HSUM.out)
  go_wp2_with fail
  refine wp_region_C (S := fun W => PbS W b w.heap.size S bd) (c := 10) (by kernel_rfl) ?_
  refine takeC 3 (i := 0) (d := 128) (v := .pointer (some ⟨b, 0, none⟩)) rfl rfl (by kernel_rfl) (by kernel_rfl) (by kernel_rfl) (by decide) (by kernel_rfl) (fun _ _ _ h => h) (by rfl) (by (rintro w ⟨b3, p3⟩; go_simp)) hS8 ?_
  simp only [List.setIfInBounds_toArray, List.set_cons_zero, List.set_cons_succ]
  refine takeC 3 (i := 1) (d := 129) (v := .pointer (some ⟨b, 0, none⟩)) rfl rfl (by kernel_rfl) (by kernel_rfl) (by kernel_rfl) (by decide) (by kernel_rfl) (fun _ _ _ h => h) (by rfl) (by (rintro w ⟨b3, p3⟩; go_simp)) hS8 ?_
  simp only [List.setIfInBounds_toArray, List.set_cons_zero, List.set_cons_succ]
  refine takeC 3 (i := 2) (d := 130) (v := .pointer (some ⟨b, 3, none⟩)) rfl rfl (by kernel_rfl) (by kernel_rfl) (by kernel_rfl) (by decide) (by kernel_rfl) (fun _ _ _ h => h) (by rfl) (by (rintro w ⟨b3, p3⟩; go_simp)) hS8 ?_
  simp only [List.setIfInBounds_toArray, List.set_cons_zero, List.set_cons_succ]
  refine takeC 3 (i := 3) (d := 131) (v := .int .i64 S) rfl rfl (by kernel_rfl) (by kernel_rfl) (by kernel_rfl) (by decide) (by kernel_rfl) (fun _ _ _ h => h) (by rfl) (by (rintro w ⟨b3, p3⟩; go_simp)) hS8 ?_
  simp only [List.setIfInBounds_toArray, List.set_cons_zero, List.set_cons_succ]
  refine takeC 3 (i := 4) (d := 132) (v := .pointer (some ⟨w.heap.size, 3, none⟩)) rfl rfl (by kernel_rfl) (by kernel_rfl) (by kernel_rfl) (by decide) (by kernel_rfl) (fun _ _ _ h => h) (by rfl) (by (rintro w ⟨b3, p3⟩; go_simp)) hS8 ?_
  simp only [List.setIfInBounds_toArray, List.set_cons_zero, List.set_cons_succ]
  refine takeC 3 (i := 5) (d := 133) (v := .string bd) rfl rfl (by kernel_rfl) (by kernel_rfl) (by kernel_rfl) (by decide) (by kernel_rfl) (fun _ _ _ h => h) (by rfl) (by (rintro w ⟨b3, p3⟩; go_simp)) hS8 ?_
  simp only [List.setIfInBounds_toArray, List.set_cons_zero, List.set_cons_succ]
  refine takeC 3 (i := 6) (d := 134) (v := .int .i64 (bd.size : Int)) rfl rfl (by kernel_rfl) (by kernel_rfl) (by kernel_rfl) (by decide) (by kernel_rfl) (fun _ _ _ h => h) (by rfl) (by (rintro w ⟨b3, p3⟩; go_simp)) hS8 ?_
  simp only [List.setIfInBounds_toArray, List.set_cons_zero, List.set_cons_succ]
  refine takeC 3 (i := 7) (d := 135) (v := .int .i64 ((S : Int) + (bd.size : Int))) rfl rfl (by kernel_rfl) (by kernel_rfl) (by kernel_rfl) (by decide) (by kernel_rfl) (fun _ _ _ h => h) (by rfl) (by (rintro w ⟨b3, p3⟩; go_simp)) hS8 ?_
  simp only [List.setIfInBounds_toArray, List.set_cons_zero, List.set_cons_succ]
  refine takeC 3 (i := 8) (d := 136) (v := .pointer (some ⟨b, 0, none⟩)) rfl rfl (by kernel_rfl) (by kernel_rfl) (by kernel_rfl) (by decide) (by kernel_rfl) (fun _ _ _ h => h) (by rfl) (by (rintro w ⟨b3, p3⟩; go_simp)) hS8 ?_
  simp only [List.setIfInBounds_toArray, List.set_cons_zero, List.set_cons_succ]
  refine takeC 3 (i := 9) (d := 137) (v := .pointer (some ⟨b, 3, none⟩)) rfl rfl (by kernel_rfl) (by kernel_rfl) (by kernel_rfl) (by decide) (by kernel_rfl) (fun _ _ _ h => h) (by rfl) (by (rintro w ⟨b3, p3⟩; go_simp)) hS8 ?_
  simp only [List.setIfInBounds_toArray, List.set_cons_zero, List.set_cons_succ]
  refine stepC (by kernel_rfl) rfl (fun K hK => ?_)
  rw [if_pos (by rfl)]
  go_simp
  refine hK.out _ _ ?_
  clear hK K hS8
  refine doneC (by kernel_rfl) ?_ _
  go_wp2_with fail
  go_ret3
  exact ⟨rfl, HQ.out⟩

theorem ftake_any (b mb : Nat) (most room : Int) (D : DataW Unit) (loc : Int → Nat × Nat) (l : List Op) (p : Pc) (F : Nat → Prop) (w : World) (h : FJ w F b mb most room D loc l) (ok : OpsOk most l) (hm : limB most room = true) :
    Calls Try.prog 17 #[.pointer (some ⟨b, 0, none⟩), .agg #[.int .i64 p.id, .int .i64 p.place, .bool p.more, .string p.body]] w (FTakeP w F b most room (took most room l p)) := by
  cases hv : vP p with
  | false => exact ftake_bad b mb most room D loc l p F w h hv
  | true =>
    cases hn : idxO l p.id with
    | none =>
      by_cases hp : p.place = 0
      · cases hmo : p.more with
        | false =>
          by_cases hs : room < (p.body.size : Int)
          · exact hmo ▸ ftake_n2 b mb most room D loc l p F w h ok hm hv hn hp hmo hs
          · exact hmo ▸ ftake_n4 b mb most room D loc l p F w h ok hm hv hn hp hmo hs
        | true =>
          by_cases hs : room < (bytesO l : Int) + (p.body.size : Int)
          · exact hmo ▸ ftake_n3 b mb most room D loc l p F w h ok hm hv hn hp hmo hs
          · by_cases hq : most ≤ (l.length : Int)
            · exact hmo ▸ ftake_n5 b mb most room D loc l p F w h ok hm hv hn hp hmo hs hq
            · exact hmo ▸ ftake_n6 b mb most room D loc l p F w h ok hm hv hn hp hmo hs hq
      · exact ftake_n1 b mb most room D loc l p F w h ok hm hv hn hp
    | some k =>
      have hk := (idxO_lt hn).1
      by_cases hp : p.place = l[k].pieces
      · by_cases hs : 65536 < l[k].body.size + p.body.size
        · exact ftake_s2 b mb most room D loc l p F w h ok hm hv k hk hn hp hs
        · by_cases hq : room < (bytesO l : Int) + (p.body.size : Int)
          · exact ftake_s3 b mb most room D loc l p F w h ok hm hv k hk hn hp hs hq
          · cases hmo : p.more with
            | false => exact hmo ▸ ftake_s4 b mb most room D loc l p F w h ok hm hv k hk hn hp hs hq hmo
            | true =>
              have hbz : 0 < p.body.size := by
                simp only [vP, hmo, Bool.and_eq_true, Bool.not_true, Bool.false_or, Bool.not_eq_true', decide_eq_false_iff_not] at hv
                omega
              exact hmo ▸ ftake_s5 b mb most room D loc l p F w h ok hm hv k hk hn hp hs hq hmo hbz
      · exact ftake_s1 b mb most room D loc l p F w h ok hm hv k hk hn hp

end Go.Proofs.Yteblbpdpfegooaa
