/- The contract of policy.together: two rows as one. -/
import Derived.Test.YtladjkkkhomngaaDoorTb
namespace Go.Proofs.YtladjkkkhomngaaDoor
set_option maxRecDepth 8000
open Go.RowKit Go.Sort Go.Shelf
attribute [local go_sem] Oper.semAt_some

theorem MgI.later {n0 B1 B2 : Nat} {W W' : World} {sl ol : List PolD} (h : MgI n0 B1 B2 W sl ol) (hb : Below W.heap.size W W') (hn : n0 ≤ W.heap.size) : MgI n0 B1 B2 W' sl ol := by
  obtain ⟨⟨sv, s1, s2⟩, ⟨ov, o1, o2⟩⟩ := h
  exact ⟨⟨sv, (hb.block _ s1.lt).trans s1, s2.kept fun k hk => hb.block k (Nat.lt_of_lt_of_le hk hn)⟩, ⟨ov, (hb.block _ o1.lt).trans o1, o2.kept fun k hk => hb.block k (Nat.lt_of_lt_of_le hk hn)⟩⟩

/-- THE ITERATOR's CONTRACT. -/
theorem merged_stops (n : Nat) (hn : 1 ≤ n) (n0 B1 B2 : Nat) (h01 : n0 ≤ B1) (h12 : B1 < B2) (s o : List PolD) (hsl : s.length ≤ 1000000) (hol : o.length ≤ 1000000) (w : World) (hM : MgI n0 B1 B2 w s o) (hn0 : n0 ≤ w.heap.size) :
    SeqT Fence.wide n Tryd.prog 97 #[.pointer (some ⟨B1, 0, none⟩), .pointer (some ⟨B2, 0, none⟩)] (fun x : PolD => #[Value.agg #[.int .i64 x.k, .int .i64 x.v]]) [B1, B2] (KM n0 B1 B2) (fun ys => ys = mrg s o) (fun pre => pre <+: mrg s o) (mrg s o).length w :=
  fun l J Jx W hW hJ _ hY h0 => merged1_in n hn l n0 B1 B2 h01 h12 s o hsl hol J Jx hJ hY W (hM.later hW hn0) h0

theorem ownsRow_turns {W W' : World} {base : Nat} {e : TypeId} {size n : Nat} {v : Value} {xs : List Value} {Bs : List Nat} (h : W.ownsRow base e size v n xs) (ht : Turns Bs W W') (hB : ∀ b ∈ Bs, b < base) : W'.ownsRow base e size v n xs := by
  refine ⟨h.1, ?_⟩
  rcases h.2 with hn | ⟨g, cap, cur, rfl, hb, hgg, rest⟩
  · exact .inl hn
  · exact .inr ⟨g, cap, cur, rfl, hb, (ht.block g (Array.getElem?_eq_some_iff.1 hgg).1 (fun hm => by have := hB g hm; omega)).trans hgg, rest⟩

/-- BETWEEN TWO ROUNDS of together: the box holds the row so far. -/
def TgI (w : World) (xs : List PolD) (W : World) : Prop := Below w.heap.size w W ∧ ∃ sv, Boxed W w.heap.size 22 sv ∧ W.ownsRow (w.heap.size + 5) 24 2 sv xs.length (polCells xs)

theorem below_turns {n0 : Nat} {w A B : World} {Bs : List Nat} (h : Below n0 w A) (ht : Turns Bs A B) (hB : ∀ b ∈ Bs, n0 ≤ b) (hn : n0 ≤ A.heap.size) : Below n0 w B :=
  ⟨ht.os.trans h.os, ht.tape.trans h.tape, ht.output.trans h.output, Nat.le_trans h.size ht.size, fun k hk => (ht.block k (Nat.lt_of_lt_of_le hk hn) (fun hm => by have := hB k hm; omega)).trans (h.block k hk)⟩

theorem TgI.bears (w : World) (Bs : List Nat) (h : ∀ b ∈ Bs, w.heap.size < b ∧ b < w.heap.size + 5) : Bears Bs (TgI w) := fun xs A B hs ht => by
  obtain ⟨hb, sv, hx, ho⟩ := hs
  exact ⟨below_turns hb ht (fun b hm => Nat.le_of_lt (h b hm).1) hb.size, sv, (ht.block _ hx.lt (fun hm => by have := h _ hm; omega)).trans hx, ownsRow_turns ho ht fun b hm => (h b hm).2⟩

/-- The element lies in a block of its own. -/
def TgA (w : World) (f : Nat → PolD → Act) (p : PolD × Act) (W : World) : Prop := ∃ g, p.2 = f g p.1 ∧ w.heap.size + 5 ≤ g ∧ W.heap[g]? = some (polO p.1.k p.1.v)
theorem TgA.bears (w : World) (f : Nat → PolD → Act) (Bs : List Nat) (h : ∀ b ∈ Bs, w.heap.size < b ∧ b < w.heap.size + 5) : Bears Bs (TgA w f) := fun p A B hs ht => by
  obtain ⟨g, h1, h2, h3⟩ := hs
  exact ⟨g, h1, h2, (ht.block g (Array.getElem?_eq_some_iff.1 h3).1 (fun hm => by have := h _ hm; omega)).trans h3⟩

set_option maxRecDepth 100000 in
set_option maxHeartbeats 4000000 in
theorem together_any (a1 a2 : Option Addr) (c1 c2 : Nat) (s o : List PolD) (w : World) (h1 : SlLt w.heap.size w (.slice a1 s.length c1) s) (h2 : SlLt w.heap.size w (.slice a2 o.length c2) o) (hsl : s.length ≤ 1000000) (hol : o.length ≤ 1000000) :
    Calls Tryd.prog 45 #[.slice a1 s.length c1, .slice a2 o.length c2] w fun e w' => ∃ sv, e = .returned sv ∧ w'.ownsRow w.heap.size 24 2 sv (mrg s o).length (polCells (mrg s o)) ∧ Below w.heap.size w w' := by
  have H1 := Lib.hid h1
  have H2 := Lib.hid h2
  have HL1 := Lib.hid hsl
  have HL2 := Lib.hid hol
  clear h1 h2 hsl hol
  obtain ⟨i0, hi, hz0, hz1, hz2⟩ := info_parts Tryd.info46
  refine (callsIn_wide (n := 9)).1 ?_
  refine callsIn_of_wp_marks Tryd.func45 rfl trivial ?_ rfl
  simp only [Tryd.ntmps45, List.size_toArray, List.length_cons, List.length_nil, Nat.reduceAdd, Nat.reduceSub, Array.replicate_succ, Array.replicate_zero, List.push_toArray, List.append_toArray, List.nil_append, List.cons_append]
  gi_wp2_with (refine ⟨trivial, ?_⟩; gi_at_call 68; refine (merged_in _ a1 a2 s.length o.length c1 c2 _).mono ?_; rintro e w2 ⟨rfl, rfl⟩)
  obtain ⟨w2, hw2⟩ : ∃ w2, ((w.alloc (Obj.cells #[Value.slice none 0 0] 22)).alloc (Obj.cells #[Value.slice a1 s.length c1] 22)).alloc (Obj.cells #[Value.slice a2 o.length c2] 22) = w2 := ⟨_, rfl⟩
  have bl : Boxed w2 w.heap.size 22 (.slice none 0 0) := hw2 ▸ ((Boxed.new w 22 _).alloc _).alloc _
  have b1 : Boxed w2 (w.heap.size + 1) 22 (.slice a1 s.length c1) := by
    rw [← hw2]
    have := (Boxed.new (w.alloc (Obj.cells #[Value.slice none 0 0] 22)) 22 (.slice a1 s.length c1)).alloc (Obj.cells #[Value.slice a2 o.length c2] 22)
    rwa [World.size_alloc] at this
  have b2 : Boxed w2 (w.heap.size + 2) 22 (.slice a2 o.length c2) := by
    rw [← hw2]
    have := Boxed.new ((w.alloc (Obj.cells #[Value.slice none 0 0] 22)).alloc (Obj.cells #[Value.slice a1 s.length c1] 22)) 22 (.slice a2 o.length c2)
    rwa [World.size_alloc, World.size_alloc] at this
  have hs2 : w2.heap.size = w.heap.size + 3 := by rw [← hw2]; simp
  have hbel : Below w.heap.size w w2 := hw2 ▸ ((((Below.refl _ _).alloc (Nat.le_refl _) _).alloc (by simp) _).alloc (by simp; omega) _)
  have hM : MgI w.heap.size (w.heap.size + 1) (w.heap.size + 2) w2 s o := ⟨⟨_, b1, H1.out.kept fun k hk => hbel.block k hk⟩, ⟨_, b2, H2.out.kept fun k hk => hbel.block k hk⟩⟩
  rw [hw2]
  have HS2 := Lib.hid hs2
  have HBE := Lib.hid hbel
  have HBL := Lib.hid bl
  have HM := Lib.hid hM
  have hin : ∀ b ∈ w2.heap.size :: (w2.heap.size + 1) :: [w.heap.size + 1, w.heap.size + 2], w.heap.size < b ∧ b < w.heap.size + 5 := by
    intro b hb
    simp only [List.mem_cons, List.not_mem_nil, or_false] at hb
    omega
  have HIN := Lib.hid hin
  clear hw2 bl b1 b2 hs2 hbel hM hin
  refine rangeT (α := PolD) rfl (by omega) (gf := 97) (lb := #[.pointer (some ⟨w.heap.size + 1, 0, none⟩), .pointer (some ⟨w.heap.size + 2, 0, none⟩)]) rfl trivial (enters_of Tryd.func97 (by kernel_rfl) rfl)
    (merged_stops (9 - 1) (by omega) w.heap.size (w.heap.size + 1) (w.heap.size + 2) (by omega) (by omega) s o HL1.out HL2.out w2 HM.out (by have := HS2.out; omega))
    (fun b hb => by have := HS2.out; simp only [List.mem_cons, List.not_mem_nil, or_false] at hb; omega)
    (fun k hk => by have := HS2.out; unfold KM at hk; omega)
    (Below.refl _ _) (fun _ => rfl)
    (TgI w) (fun _ _ _ => False) (TgI.bears w _ HIN.out) (fun _ _ _ _ h _ => h)
    ⟨HBE.out, _, HBL.out, World.ownsRow_nil _ _ _ _⟩
    (TgA w fun g x => { tmps := #[.slice a1 s.length c1, .slice a2 o.length c2, undef, undef, .slice none 0 0, .pointer (some ⟨w.heap.size, 0, none⟩), .pointer (some ⟨g, 0, none⟩), .slice a1 s.length c1, .slice a2 o.length c2,
      .func (.func 97) #[] #[.pointer (some ⟨w.heap.size + 1, 0, none⟩), .pointer (some ⟨w.heap.size + 2, 0, none⟩)], .agg #[.int .i64 x.k, .int .i64 x.v], undef, undef, undef, undef, undef], defers := [] })
    (TgA.bears w _ _ HIN.out) ?assign ?body ?done ?stop
  case assign =>
    intro l pre x W k hi hlt hlen hk
    gi_wp2
    have hal : Turns [] W (W.alloc (Obj.cells #[Value.int IntKind.i64 x.k, Value.int IntKind.i64 x.v] 24)) := Turns.alloc [] W _
    refine hk _ _ ⟨hal.block _ (by omega) (by simp), hal.block _ (by omega) (by simp)⟩ (fun j hj => hal.block j (by have := HS2.out; unfold KM at hj; omega) (by simp)) (TgI.bears w [] (by simp) _ _ _ hi hal) ⟨W.heap.size, rfl, by have := HS2.out; omega, heap_alloc_new _ _⟩
  case body =>
    rintro l pre x a' W ⟨hb, sv, hx, ho⟩ ⟨g, ha', hg, hgx⟩ hlt hlen
    dsimp only at ha' hgx
    subst ha'
    have hpl : pre.length ≤ 2000000 := by have := mrg_length s o; have := HL1.out; have := HL2.out; omega
    have hs2 := HS2.out
    have cb := hx.cell
    have p0 := pol_c0 hgx
    have p1 := pol_c1 hgx
    have HO := Lib.hid ho
    have HX := Lib.hid hx
    obtain ⟨d0, cap0, rfl, _⟩ := row_of_own ho
    clear ho hx
    gi_wp2_with (gi_at_builtin; refine wpListIn_append_own _ rfl _ _ 22 rfl (w.heap.size + 5) 24 i0 (.agg #[.int .i64 0, .int .i64 0]) 2 16 Tryd.underlying22 hi hz0 hz1 hz2 rfl (by decide) _ _ _ rfl (HO.out.alloc _) ⟨W.heap.size, 0, none⟩ 1 1 [.int .i64 x.k, .int .i64 x.v] rfl rfl (cell_pol_new (heap_alloc_new _ _)) (by simp [Value.oneCell']) (by unfold maxLen; omega) (by omega) (by simp; omega) ?_; intro v' w3 hown' hgrow _; have hown2 : w3.ownsRow (w.heap.size + 5) 24 2 v' (pre ++ [x]).length (polCells (pre ++ [x])) := (by rw [polCells_snoc, List.length_append]; exact hown'); obtain ⟨d1, cap1, rfl, _⟩ := row_of_own hown2; have hX3 : Boxed w3 w.heap.size 22 _ := Boxed.kept (HX.out.alloc (Obj.cells #[Value.int IntKind.i64 x.k, Value.int IntKind.i64 x.v] 24)) hgrow (fun e => by have := (HO.out.lt _ e.symm).1; omega); have c3 := hX3.cell; have f3 := hX3.frozen; have HX3 := Lib.hid hX3; have HO3 := Lib.hid hown2; have HG := Lib.hid hgrow; clear hown' hown2 hgrow hX3)
    have hkeep : ∀ j, j < w.heap.size + 5 → j ≠ w.heap.size → j < W.heap.size → (w3.setCell ⟨w.heap.size, 0, none⟩ (.slice d1 (pre ++ [x]).length cap1)).heap[j]? = W.heap[j]? := fun j h5 hne hlt => by
      rw [(grownBy_cell w3 ⟨w.heap.size, 0, none⟩ (.slice d1 (pre ++ [x]).length cap1)).block j (Nat.lt_of_lt_of_le (Nat.lt_of_lt_of_le hlt (by simp)) HG.out.size) (fun e => hne (Option.some.inj e))]
      rw [HG.out.block j (Nat.lt_of_lt_of_le hlt (by simp)) (fun e => by have := (HO.out.lt _ e.symm).1; omega)]
      exact Below.heap_alloc _ _ _ hlt
    have hlen' : (pre ++ [x]).length = pre.length + 1 := by simp
    rw [hlen'] at hkeep
    have hsz := HG.out.size
    rw [World.size_alloc] at hsz
    have ho3 : w3.ownsRow (w.heap.size + 5) 24 2 (.slice d1 (pre.length + 1) cap1) (pre ++ [x]).length (polCells (pre ++ [x])) := by
      have := HO3.out
      rw [hlen'] at this ⊢
      exact this
    have ho4 := ho3.kept (grownBy_cell w3 ⟨w.heap.size, 0, none⟩ (.slice d1 (pre.length + 1) cap1)) (.inr fun e => by have h9 : w.heap.size + 5 ≤ w.heap.size := (ho3.lt _ e).1; omega)
    refine ⟨⟨hkeep _ (by omega) (by omega) (by omega), hkeep _ (by omega) (by omega) (by omega)⟩, fun j hj => hkeep j (by unfold KM at hj; omega) (by unfold KM at hj; omega) (by unfold KM at hj; omega), ?_, .slice d1 (pre.length + 1) cap1, Boxed.set _ HX3.out, ho4⟩
    have g4 := grownBy_cell w3 ⟨w.heap.size, 0, none⟩ (.slice d1 (pre.length + 1) cap1)
    exact ⟨g4.os.trans (HG.out.os.trans hb.os), g4.tape.trans (HG.out.tape.trans hb.tape), g4.output.trans (HG.out.output.trans hb.output), by have := g4.size; omega, fun j hj => (hkeep j (by omega) (by omega) (by omega)).trans (hb.block j hj)⟩
  case done =>
    rintro xs W rfl ⟨hb, sv, hx, ho⟩ hD
    have hs2 := HS2.out
    obtain ⟨d0, cap0, rfl, _⟩ := row_of_own ho
    have cb := hx.cell
    gi_wp2
    refine ⟨by simp, .inl ⟨_, _, rfl, run_takeDeferred hD, ?_⟩⟩
    have ht : Turns [w2.heap.size] W (W.putObj w2.heap.size (.deferred none)) := Turns.putObj (by simp) W _
    refine ⟨_, results_tmp rfl _ _ _, _, rfl, ?_, ?_⟩
    · have := ownsRow_turns ho ht (by simp; omega)
      exact ⟨this.1, this.2.imp id fun ⟨g, cap, cur, e1, e2, e3⟩ => ⟨g, cap, cur, e1, by omega, e3⟩⟩
    · exact below_turns hb ht (by simp; omega) hb.size
  case stop =>
    rintro c pre W _ h _
    exact h.elim

end Go.Proofs.YtladjkkkhomngaaDoor
