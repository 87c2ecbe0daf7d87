/- The contracts of frag.gathered, for the sizes of Cut and for those of Sizes. -/
import Derived.Test.YteblbpdpfegooaaE
namespace Go.Proofs.Yteblbpdpfegooaa
open Go.RowKit Go.Shelf
attribute [local go_sem] Oper.semAt_some

theorem ownsRow_turns {W W' : World} {base : Nat} {e : TypeId} {size n : Nat} {v : Value} {xs : List Value} {Bs : List Nat} (h : W.ownsRow base e size v n xs) (ht : Turns Bs W W') (hB : ∀ b ∈ Bs, b < base) : W'.ownsRow base e size v n xs := by
  refine ⟨h.1, ?_⟩
  rcases h.2 with hn | ⟨g, cap, cur, rfl, hb, hgg, rest⟩
  · exact .inl hn
  · exact .inr ⟨g, cap, cur, rfl, hb, (ht.block g (Array.getElem?_eq_some_iff.1 hgg).1 (fun hm => by have := hB g hm; omega)).trans hgg, rest⟩

theorem turns_below {Bs Cs : List Nat} {w A B : World} (h : Turns Bs w A) (ht : Turns Cs A B) (hc : ∀ c ∈ Cs, c ∈ Bs ∨ w.heap.size ≤ c) : Turns Bs w B :=
  ⟨ht.os.trans h.os, ht.tape.trans h.tape, ht.output.trans h.output, Nat.le_trans h.size ht.size, fun k hk hn => (ht.block k (Nat.lt_of_lt_of_le hk h.size) (fun hm => by rcases hc k hm with h1 | h1; exact hn h1; omega)).trans (h.block k hk hn)⟩

theorem pieces_in (n : Nat) (id : Int) (b : ByteArray) (nv : Value) (gf : Nat) (lb : Array Value) (hnv : nv = .func (.func gf) #[] lb) (w : World) :
    CallsIn Fence.wide n Try.prog 52 #[.int .i64 id, .string b, nv] w fun e w' => e = .returned (.func (.func 60) #[] #[.pointer (some ⟨w.heap.size + 2, 0, none⟩), .pointer (some ⟨w.heap.size + 1, 0, none⟩), .pointer (some ⟨w.heap.size, 0, none⟩)]) ∧
      w' = ((w.alloc (.cells #[.int .i64 id] 3)).alloc (.cells #[.string b] 9)).alloc (.cells #[nv] 83) := by
  subst hnv
  refine callsIn_of_wp Try.func52 rfl trivial ?_ rfl
  simp only [Try.ntmps52, List.size_toArray, List.length_cons, List.length_nil, Nat.reduceAdd, Nat.reduceSub, Array.replicate_succ, Array.replicate_zero, List.push_toArray, List.append_toArray, List.nil_append, List.cons_append]
  gi_wp2
  go_ret
  exact ⟨rfl, rfl⟩

/-- BETWEEN TWO ROUNDS of gathered: the box holds the pieces so far. -/
def GtI (w : World) (Bn : List Nat) (xs : List Pc) (W : World) : Prop := Turns Bn w W ∧ ∃ sv, Boxed W w.heap.size 23 sv ∧ W.ownsRow (w.heap.size + 6) 25 4 sv xs.length (pcCells xs)

theorem GtI.bears (w : World) (Bn Bs : List Nat) (hn : ∀ b ∈ Bn, b < w.heap.size) (h : ∀ b ∈ Bs, b ∈ Bn ∨ w.heap.size < b ∧ b < w.heap.size + 6) : Bears Bs (GtI w Bn) := fun xs A B hs ht => by
  obtain ⟨hb, sv, hx, ho⟩ := hs
  refine ⟨turns_below hb ht (fun c hc => (h c hc).imp id fun g => by omega), sv, (ht.block _ hx.lt (fun hm => ?_)).trans hx, ownsRow_turns ho ht fun b hm => ?_⟩
  · rcases h _ hm with g | g
    · have := hn _ g; omega
    · omega
  · rcases h _ hm with g | g
    · have := hn _ g; omega
    · omega

/-- The element lies in a block of its own. -/
def GtA (w : World) (f : Nat → Pc → Act) (p : Pc × Act) (W : World) : Prop := ∃ g, p.2 = f g p.1 ∧ w.heap.size + 6 ≤ g ∧ W.heap[g]? = some (pcO p.1.id p.1.place p.1.more p.1.body)

theorem GtA.bears (w : World) (f : Nat → Pc → Act) (Bs : List Nat) (h : ∀ b ∈ Bs, b < w.heap.size + 6) : Bears Bs (GtA w f) := fun p A B hs ht => by
  obtain ⟨g, h1, h2, h3⟩ := hs
  exact ⟨g, h1, h2, (ht.block g (Array.getElem?_eq_some_iff.1 h3).1 (fun hm => by have := h _ hm; omega)).trans h3⟩

theorem pcO_cells {W : World} {g : Nat} {i pl : Int} {m : Bool} {x : ByteArray} (h : W.heap[g]? = some (pcO i pl m x)) : W.cell? ⟨g, 0, none⟩ = some (.int .i64 i) ∧ W.cell? ⟨g, 1, none⟩ = some (.int .i64 pl) ∧ W.cell? ⟨g, 2, none⟩ = some (.bool m) ∧ W.cell? ⟨g, 3, none⟩ = some (.string x) :=
  ⟨cells_at h 0, cells_at h 1, cells_at h 2, cells_at h 3⟩

theorem PiI.turned {B1 B2 B3 : Nat} {W W' : World} {id : Int} {b : ByteArray} {nv : Value} {Bs : List Nat} (h : PiI B1 B2 B3 W id b nv) (ht : Turns Bs W W') (h1 : B1 ∉ Bs) (h2 : B2 ∉ Bs) (h3 : B3 ∉ Bs) : PiI B1 B2 B3 W' id b nv :=
  ⟨Boxed.turns h.id ht h1, Boxed.turns h.body ht h2, Boxed.turns h.next ht h3⟩

theorem yield_one {n l : Nat} {x : Pc} {W : World} {K : Nat → Prop} {J Jx : List Pc → World → Prop} {ps : List Pc}
    (h : YieldAt Fence.wide (n - 1) Try.prog l (pcV x) W fun e W' => (e = .returned (.bool true) ∧ J ps W' ∧ Kept K W W') ∨ (e = .returned (.bool false) ∧ Jx ps W')) :
    YieldAt Fence.wide (n - 1) Try.prog l (pcV x) W fun e W' => ∃ r, e = .returned (.bool r) ∧ YR K J Jx ps W r W' := by
  obtain ⟨fn, tmps, assign, body, hy, hR⟩ := h
  refine ⟨fn, tmps, assign, body, hy, hR.mono fun e W' hh => ?_⟩
  rcases hh with ⟨h1, h2, h3⟩ | ⟨h1, h2⟩
  · exact ⟨true, h1, (fun _ => ⟨h2, h3⟩), (fun h => by cases h)⟩
  · exact ⟨false, h1, (fun h => by cases h), fun _ => h2⟩

set_option maxRecDepth 100000 in
set_option maxHeartbeats 8000000 in
theorem gatheredCut_any (id : Int) (sz Bn : Nat) (hsz : 1 ≤ sz) (hsz2 : sz ≤ 65536) (body : ByteArray) (hbody : body.size ≤ 65536) (w : World) (hst : Boxed w Bn 3 (.int .i64 sz)) :
    Calls Try.prog 39 #[.int .i64 id, .string body, .func (.func 40) #[] #[.pointer (some ⟨Bn, 0, none⟩)]] w fun e w' => ∃ sv, e = .returned sv ∧ w'.ownsRow w.heap.size 25 4 sv (cutP id (fun _ => some sz) 0 body).length (pcCells (cutP id (fun _ => some sz) 0 body)) ∧ Turns [] w w' := by
  obtain ⟨all, hall⟩ : ∃ all, cutP id (fun _ => some sz) 0 body = all := ⟨_, rfl⟩
  have hlen0 := cut_len id (fun _ => some sz) body.size 0 body (Nat.le_refl _)
  rw [hall] at hlen0
  rw [hall]
  have HALL := Lib.hid hall
  have HLEN := Lib.hid (show all.length ≤ 65537 by omega)
  have HST := Lib.hid hst
  clear hall hlen0
  obtain ⟨i0, hi, hz0, hz1, hz2⟩ := info_parts infoPc
  refine (callsIn_wide (n := 9)).1 ?_
  refine callsIn_of_wp_marks Try.func39 rfl trivial ?_ rfl
  simp only [Try.ntmps39, List.size_toArray, List.length_cons, List.length_nil, Nat.reduceAdd, Nat.reduceSub, Array.replicate_succ, Array.replicate_zero, List.push_toArray, List.append_toArray, List.nil_append, List.cons_append]
  gi_wp2_with (refine ⟨trivial, ?_⟩; gi_at_call 52; refine (pieces_in _ id body _ 40 #[.pointer (some ⟨Bn, 0, none⟩)] rfl _).mono ?_; rintro e w2 ⟨rfl, rfl⟩)
  obtain ⟨w2, hw2⟩ : ∃ w2, (((w.alloc (Obj.cells #[Value.slice none 0 0] 23)).alloc (Obj.cells #[Value.int .i64 id] 3)).alloc (Obj.cells #[Value.string body] 9)).alloc (Obj.cells #[Value.func (.func 40) #[] #[.pointer (some ⟨Bn, 0, none⟩)]] 83) = w2 := ⟨_, rfl⟩
  have bl : Boxed w2 w.heap.size 23 (.slice none 0 0) := hw2 ▸ (((Boxed.new w 23 _).alloc _).alloc _).alloc _
  have b1 : Boxed w2 (w.heap.size + 1) 3 (.int .i64 id) := by
    rw [← hw2]
    have := ((Boxed.new (w.alloc (Obj.cells #[Value.slice none 0 0] 23)) 3 (.int .i64 id)).alloc (Obj.cells #[Value.string body] 9)).alloc (Obj.cells #[Value.func (.func 40) #[] #[.pointer (some ⟨Bn, 0, none⟩)]] 83)
    rwa [World.size_alloc] at this
  have b2 : Boxed w2 (w.heap.size + 2) 9 (.string body) := by
    rw [← hw2]
    have := (Boxed.new ((w.alloc (Obj.cells #[Value.slice none 0 0] 23)).alloc (Obj.cells #[Value.int .i64 id] 3)) 9 (.string body)).alloc (Obj.cells #[Value.func (.func 40) #[] #[.pointer (some ⟨Bn, 0, none⟩)]] 83)
    rwa [World.size_alloc, World.size_alloc] at this
  have b3 : Boxed w2 (w.heap.size + 3) 83 (Value.func (.func 40) #[] #[.pointer (some ⟨Bn, 0, none⟩)]) := by
    rw [← hw2]
    have := Boxed.new (((w.alloc (Obj.cells #[Value.slice none 0 0] 23)).alloc (Obj.cells #[Value.int .i64 id] 3)).alloc (Obj.cells #[Value.string body] 9)) 83 (Value.func (.func 40) #[] #[.pointer (some ⟨Bn, 0, none⟩)])
    rwa [World.size_alloc, World.size_alloc, World.size_alloc] at this
  have hs2 : w2.heap.size = w.heap.size + 4 := by rw [← hw2]; simp
  have hbel0 : Below w.heap.size w w2 := hw2 ▸ (((((Below.refl _ _).alloc (Nat.le_refl _) _).alloc (by simp) _).alloc (by simp; omega) _).alloc (by simp; omega) _)
  have hbel : Turns [] w w2 := Turns.of_below hbel0 _
  have hM : PiI (w.heap.size + 1) (w.heap.size + 2) (w.heap.size + 3) w2 id body (Value.func (.func 40) #[] #[.pointer (some ⟨Bn, 0, none⟩)]) := ⟨b1, b2, b3⟩
  rw [hw2]
  have HS2 := Lib.hid hs2
  have HBE := Lib.hid hbel
  have HBL := Lib.hid bl
  have HM := Lib.hid hM
  have HN2 : Hid (Boxed w2 Bn 3 (.int .i64 sz)) := Lib.hid (Boxed.turns HST.out hbel (by simp))
  have hin : ∀ b ∈ w2.heap.size :: (w2.heap.size + 1) :: [w.heap.size + 2], b ∈ ([] : List Nat) ∨ w.heap.size < b ∧ b < w.heap.size + 6 := by
    intro b hb
    simp at hb ⊢
    omega
  have HIN := Lib.hid hin
  have hbn : ∀ b ∈ ([] : List Nat), b < w.heap.size := by
    intro b hb
    simp at hb
    
  have HBNN := Lib.hid hbn
  clear hw2 bl b1 b2 b3 hs2 hbel hbel0 hM hin hbn
  refine rangeT (α := Pc) rfl (by omega) (gf := 60) (lb := #[.pointer (some ⟨w.heap.size + 3, 0, none⟩), .pointer (some ⟨w.heap.size + 2, 0, none⟩), .pointer (some ⟨w.heap.size + 1, 0, none⟩)]) rfl trivial (enters_of Try.func60 (by kernel_rfl) rfl)
    (encs := pcV) (Bs := [w.heap.size + 2]) (K := KP w.heap.size (w.heap.size + 1) (w.heap.size + 2) (w.heap.size + 3)) (S := fun ys => ys = all) (Sp := fun pre => pre <+: all) (N := all.length) (w0 := w2)
    (fun l J Jx W hW hJ _ hY h0 => by
      have ht := Turns.of_below hW []
      have := piecesCut_in (9 - 1) (by omega) l w.heap.size (w.heap.size + 1) (w.heap.size + 2) (w.heap.size + 3) Bn (by omega) (by omega) (by omega) HST.out.lt id sz hsz hsz2 body hbody J Jx hJ (fun pre x W1 h1 h2 => yield_one (hY pre x W1 h1 (by rw [HALL.out] at h2; exact h2))) W (HM.out.turned ht (by simp) (by simp) (by simp)) (Boxed.turns HN2.out ht (by simp)) h0
      rw [HALL.out] at this
      exact this)
    (fun b hb => by have := HS2.out; simp only [List.mem_cons, List.not_mem_nil, or_false] at hb; omega)
    (fun k hk => by have := HS2.out; unfold KP at hk; omega)
    (Below.refl _ _) (fun _ => rfl)
    (GtI w []) (fun _ _ _ => False) (GtI.bears w [] _ HBNN.out HIN.out) (fun _ _ _ _ h _ => h)
    ⟨HBE.out, _, HBL.out, World.ownsRow_nil _ _ _ _⟩
    (GtA w fun g x => { tmps := #[.int .i64 id, .string body, Value.func (.func 40) #[] #[.pointer (some ⟨Bn, 0, none⟩)], undef, undef, undef, .slice none 0 0, .pointer (some ⟨w.heap.size, 0, none⟩), .pointer (some ⟨g, 0, none⟩), .int .i64 id, .string body, Value.func (.func 40) #[] #[.pointer (some ⟨Bn, 0, none⟩)],
      .func (.func 60) #[] #[.pointer (some ⟨w.heap.size + 3, 0, none⟩), .pointer (some ⟨w.heap.size + 2, 0, none⟩), .pointer (some ⟨w.heap.size + 1, 0, none⟩)], .agg #[.int .i64 x.id, .int .i64 x.place, .bool x.more, .string x.body], undef, undef, undef, undef, undef], defers := [] })
    (GtA.bears w _ _ fun b hb => by rcases HIN.out b hb with h | h; have := HBNN.out b h; omega; omega) ?assign ?body ?done ?stop
  case assign =>
    intro l pre x W k hi hlt hlen hk
    unfold pcV
    gi_wp2
    have hal : Turns [] W (W.alloc (Obj.cells #[Value.int IntKind.i64 x.id, Value.int IntKind.i64 x.place, Value.bool x.more, Value.string x.body] 25)) := Turns.alloc [] W _
    refine hk _ _ ⟨hal.block _ (by omega) (by simp), hal.block _ (by omega) (by simp)⟩ (fun j hj => hal.block j (by have := HS2.out; unfold KP at hj; omega) (by simp)) (GtI.bears w [] [] HBNN.out (by simp) _ _ _ hi hal) ⟨W.heap.size, rfl, by have := HS2.out; omega, heap_alloc_new _ _⟩
  case body =>
    rintro l pre x a' W ⟨hb, sv, hx, ho⟩ ⟨g, ha', hg, hgx⟩ hlt hlen
    dsimp only at ha' hgx
    subst ha'
    have hpl : pre.length ≤ 65537 := by have := HLEN.out; omega
    have hs2 := HS2.out
    have cb := hx.cell
    obtain ⟨p0, p1, p2, p3⟩ := pcO_cells hgx
    have HO := Lib.hid ho
    have HX := Lib.hid hx
    obtain ⟨d0, cap0, rfl, _⟩ := row_of_own ho
    clear ho hx
    gi_wp2_with (gi_at_builtin; refine wpListIn_append_own _ rfl _ _ 23 rfl (w.heap.size + 6) 25 i0 (.agg #[.int .i64 0, .int .i64 0, .bool false, .string ⟨#[]⟩]) 4 40 Try.underlying23 hi hz0 hz1 hz2 rfl (by decide) _ _ _ rfl (HO.out.alloc _) ⟨W.heap.size, 0, none⟩ 1 1 [.int .i64 x.id, .int .i64 x.place, .bool x.more, .string x.body] rfl rfl (cell_pc_new (heap_alloc_new _ _)) (by simp [Value.oneCell']) (by unfold maxLen; omega) (by omega) (by simp; omega) ?_; intro v' w3 hown' hgrow _; have hown2 : w3.ownsRow (w.heap.size + 6) 25 4 v' (pre ++ [x]).length (pcCells (pre ++ [x])) := (by rw [pcCells_snoc, List.length_append]; exact hown'); obtain ⟨d1, cap1, rfl, _⟩ := row_of_own hown2; have hX3 : Boxed w3 w.heap.size 23 _ := Boxed.kept (HX.out.alloc (Obj.cells #[Value.int IntKind.i64 x.id, Value.int IntKind.i64 x.place, Value.bool x.more, Value.string x.body] 25)) hgrow (fun e => by have := (HO.out.lt _ e.symm).1; omega); have c3 := hX3.cell; have f3 := hX3.frozen; have HX3 := Lib.hid hX3; have HO3 := Lib.hid hown2; have HG := Lib.hid hgrow; clear hown' hown2 hgrow hX3)
    have hkeep : ∀ j, j < w.heap.size + 6 → j ≠ w.heap.size → j < W.heap.size → (w3.setCell ⟨w.heap.size, 0, none⟩ (.slice d1 (pre ++ [x]).length cap1)).heap[j]? = W.heap[j]? := fun j h5 hne hlt => by
      rw [(grownBy_cell w3 ⟨w.heap.size, 0, none⟩ (.slice d1 (pre ++ [x]).length cap1)).block j (Nat.lt_of_lt_of_le (Nat.lt_of_lt_of_le hlt (by simp)) HG.out.size) (fun e => hne (Option.some.inj e))]
      rw [HG.out.block j (Nat.lt_of_lt_of_le hlt (by simp)) (fun e => by have := (HO.out.lt _ e.symm).1; omega)]
      exact Below.heap_alloc _ _ _ hlt
    have hlen' : (pre ++ [x]).length = pre.length + 1 := by simp
    rw [hlen'] at hkeep
    have hsz := HG.out.size
    rw [World.size_alloc] at hsz
    have ho3 : w3.ownsRow (w.heap.size + 6) 25 4 (.slice d1 (pre.length + 1) cap1) (pre ++ [x]).length (pcCells (pre ++ [x])) := by
      have := HO3.out
      rw [hlen'] at this ⊢
      exact this
    have ho4 := ho3.kept (grownBy_cell w3 ⟨w.heap.size, 0, none⟩ (.slice d1 (pre.length + 1) cap1)) (.inr fun e => by have h9 : w.heap.size + 6 ≤ w.heap.size := (ho3.lt _ e).1; omega)
    refine ⟨⟨hkeep _ (by omega) (by omega) (by omega), hkeep _ (by omega) (by omega) (by omega)⟩, fun j hj => hkeep j (by unfold KP at hj; omega) (by unfold KP at hj; omega) (by unfold KP at hj; omega), ?_, .slice d1 (pre.length + 1) cap1, Boxed.set _ HX3.out, ho4⟩
    have g4 := grownBy_cell w3 ⟨w.heap.size, 0, none⟩ (.slice d1 (pre.length + 1) cap1)
    exact ⟨g4.os.trans (HG.out.os.trans hb.os), g4.tape.trans (HG.out.tape.trans hb.tape), g4.output.trans (HG.out.output.trans hb.output), by have := g4.size; have := hb.size; omega, fun j hj hn => (hkeep j (by omega) (by omega) (by have := hb.size; omega)).trans (hb.block j hj hn)⟩
  case done =>
    rintro xs W rfl ⟨hb, sv, hx, ho⟩ hD
    have hs2 := HS2.out
    obtain ⟨d0, cap0, rfl, _⟩ := row_of_own ho
    have cb := hx.cell
    gi_wp2
    refine ⟨by simp, .inl ⟨_, _, rfl, run_takeDeferred hD, ?_⟩⟩
    have ht : Turns [w2.heap.size] W (W.putObj w2.heap.size (.deferred none)) := Turns.putObj (by simp) W _
    refine ⟨_, results_tmp rfl _ _ _, _, rfl, ?_, ?_⟩
    · have := ownsRow_turns ho ht (by simp; omega)
      exact ⟨this.1, this.2.imp (fun h => h) fun ⟨g, cap, cur, e1, e2, e3⟩ => ⟨g, cap, cur, e1, by omega, e3⟩⟩
    · exact turns_below hb ht (by simp; omega)
  case stop =>
    rintro c pre W _ h _
    exact h.elim

end Go.Proofs.Yteblbpdpfegooaa
