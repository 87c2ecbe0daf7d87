/- Both joiners under one word; what All does; both All. -/
import Derived.Test.YteblbpdpfegooaaJn
import Derived.Test.YteblbpdpfegooaaJq
import Derived.Test.YteblbpdpfegooaaJh
import Derived.Maps.AppendAt
namespace Go.Proofs.Yteblbpdpfegooaa
open Go.RowKit Go.Sort Go.BigFrame

theorem results_four {fn : Func} {t u v x : Tmp} (h : fn.results = #[.tmp t, .tmp u, .tmp v, .tmp x]) (tmps : Array Value) (P : Program) (w : World) :
    (results fn tmps).run P w = .ok (.tuple #[tmps.getD t undef, tmps.getD u undef, tmps.getD v undef, tmps.getD x undef]) w := by
  simp [results, h]

abbrev JXT := World → (Nat → Prop) → Nat → Int → Int → List Op → Prop

def FX : JXT := fun w F b most room l => ∃ mb D loc, FJ w F b mb most room D loc l
def RX : JXT := fun w F b most room l => ∃ sv, RJ w F b most room sv l

structure JLaw (JX : JXT) : Prop where
  few : ∀ {w F b most room l}, JX w F b most room l → ∀ k, F k → k < w.heap.size
  kept : ∀ {w w' F G b most room l}, JX w F b most room l → But G w w' → (∀ k, F k → ¬ G k) → JX w' F b most room l

theorem fx : JLaw FX := ⟨fun ⟨_, _, _, h⟩ => h.few, fun ⟨mb, D, loc, h⟩ hb hf => ⟨mb, D, loc, h.kept hb hf⟩⟩
theorem rx : JLaw RX := ⟨fun ⟨_, h⟩ => h.few, fun ⟨sv, h⟩ hb hf => ⟨sv, h.kept hb hf⟩⟩

theorem JLaw.below {JX : JXT} (L : JLaw JX) {w w' : World} {F : Nat → Prop} {b : Nat} {most room : Int} {l : List Op} (h : JX w F b most room l) (hb : Below w.heap.size w w') : JX w' F b most room l :=
  L.kept h (But.of_below (F := fun _ => False) hb) fun _ _ g => g

def StepX (JX : JXT) (w : World) (F : Nat → Prop) (b : Nat) (most room : Int) (l : List Op) (w' : World) : Prop := ∃ F', JX w' F' b most room l ∧ (∀ k, F' k → F k ∨ w.heap.size ≤ k) ∧ But F w w'

theorem FStep.x {w w' : World} {F : Nat → Prop} {b : Nat} {most room : Int} {l : List Op} (h : FStep w F b most room l w') : StepX FX w F b most room l w' := by
  obtain ⟨F', mb, D, loc, h1, h2, h3⟩ := h
  exact ⟨F', ⟨mb, D, loc, h1⟩, h2, h3⟩
theorem RStep.x {w w' : World} {F : Nat → Prop} {b : Nat} {most room : Int} {l : List Op} (h : RStep w F b most room l w') : StepX RX w F b most room l w' := by
  obtain ⟨F', sv, h1, h2, h3⟩ := h
  exact ⟨F', ⟨sv, h1⟩, h2, h3⟩

/-- What New returns. -/
def NewX (JX : JXT) (most room : Int) (w : World) (e : Ending) (w' : World) : Prop :=
  if limB most room = true then ∃ b F, e = .returned (.tuple #[.pointer (some ⟨b, 0, none⟩), .int .i64 0]) ∧ JX w' F b most room [] ∧ (∀ k, F k → w.heap.size ≤ k) ∧ Below w.heap.size w w'
  else e = .returned (.tuple #[.pointer none, .int .i64 7]) ∧ w' = w
theorem fnewX (most room : Int) (w : World) : Calls Try.prog 8 #[.int .i64 most, .int .i64 room] w (NewX FX most room w) := (fnew_any most room w).mono fun e w' h => by
  unfold FNewP at h
  unfold NewX
  split at h
  · rename_i hl
    rw [if_pos hl]
    obtain ⟨b, F, mb, D, loc, h1, h2, h3, h4⟩ := h
    exact ⟨b, F, h1, ⟨mb, D, loc, h2⟩, h3, h4⟩
  · rename_i hl
    rw [if_neg hl]
    exact h
theorem rnewX (most room : Int) (w : World) : Calls Try.prog 9 #[.int .i64 most, .int .i64 room] w (NewX RX most room w) := (rnew_any most room w).mono fun e w' h => by
  unfold RNewP at h
  unfold NewX
  split at h
  · rename_i hl
    rw [if_pos hl]
    obtain ⟨b, F, h1, h2, h3, h4⟩ := h
    exact ⟨b, F, h1, ⟨_, h2⟩, h3, h4⟩
  · rename_i hl
    rw [if_neg hl]
    exact h

/-- What Take returns. -/
def TakeX (JX : JXT) (w : World) (F : Nat → Prop) (b : Nat) (most room : Int) (r : Took) (e : Ending) (w' : World) : Prop :=
  e = .returned (.tuple #[.string r.body, .bool r.whole, .int .i64 r.er]) ∧ StepX JX w F b most room r.l w'
theorem ftakeX (b : Nat) (most room : Int) (l : List Op) (i pl : Int) (m : Bool) (bd : ByteArray) (F : Nat → Prop) (w : World) (h : FX w F b most room l) (ok : OpsOk most l) (hm : limB most room = true) :
    Calls Try.prog 17 #[.pointer (some ⟨b, 0, none⟩), .agg #[.int .i64 i, .int .i64 pl, .bool m, .string bd]] w (TakeX FX w F b most room (took most room l ⟨i, pl, m, bd⟩)) := by
  obtain ⟨mb, D, loc, h⟩ := h
  exact (ftake_any b mb most room D loc l ⟨i, pl, m, bd⟩ F w h ok hm).mono fun e w' h => ⟨h.1, h.2.x⟩
theorem rtakeX (b : Nat) (most room : Int) (l : List Op) (i pl : Int) (m : Bool) (bd : ByteArray) (F : Nat → Prop) (w : World) (h : RX w F b most room l) (ok : OpsOk most l) (hm : limB most room = true) :
    Calls Try.prog 18 #[.pointer (some ⟨b, 0, none⟩), .agg #[.int .i64 i, .int .i64 pl, .bool m, .string bd]] w (TakeX RX w F b most room (took most room l ⟨i, pl, m, bd⟩)) := by
  obtain ⟨sv, h⟩ := h
  exact (rtake_any b most room sv l ⟨i, pl, m, bd⟩ F w h ok hm).mono fun e w' h => ⟨h.1, h.2.x⟩

/-- What All returns. -/
structure AllR where
  ids : List Int
  bodies : List ByteArray
  bad : Int
  er : Int
def allR (most room : Int) : List Op → List Pc → Int → List Int → List ByteArray → AllR
  | _, [], _, a, c => ⟨a, c, -1, 0⟩
  | ops, p :: r, i, a, c =>
    if (took most room ops p).er = 0 then
      (if (took most room ops p).whole = true then allR most room (took most room ops p).l r (i + 1) (a ++ [p.id]) (c ++ [(took most room ops p).body]) else allR most room (took most room ops p).l r (i + 1) a c)
    else ⟨a, c, i, (took most room ops p).er⟩
def allT (most room : Int) (l : List Pc) : AllR := if 2000 < l.length then ⟨[], [], 0, 1⟩ else if limB most room = true then allR most room [] l 0 [] [] else ⟨[], [], 0, 7⟩

/-- Texts lie at a place. -/
def TextsAt (W : World) (b : Nat) (l : List ByteArray) : Prop := ∀ i (h : i < l.length), W.cell? ⟨b, i, none⟩ = some (.string l[i])
def TextRow (W : World) (ao : Option Addr) (l : List ByteArray) : Prop := l = [] ∨ ∃ b, ao = some ⟨b, 0, none⟩ ∧ b < W.heap.size ∧ TextsAt W b l
theorem TextRow.below {W W' : World} {ao : Option Addr} {l : List ByteArray} (h : TextRow W ao l) (hb : Below W.heap.size W W') : TextRow W' ao l := by
  rcases h with h | ⟨b, h0, h1, h2⟩
  · exact .inl h
  · exact .inr ⟨b, h0, Nat.lt_of_lt_of_le h1 hb.size, fun i hi => (hb.cell h1).trans (h2 i hi)⟩
theorem TextRow.of_own {W : World} {base : Nat} {v : Value} {l : List ByteArray} (h : W.ownsRow base 9 1 v l.length (l.map Value.string)) : ∃ ao cap, v = .slice ao l.length cap ∧ TextRow W ao l := by
  rcases h.2 with ⟨hv, h0⟩ | ⟨g, cap, cur, hv, hb, hg, _⟩
  · exact ⟨none, 0, by rw [hv, h0], .inl (List.eq_nil_of_length_eq_zero h0)⟩
  · refine ⟨_, cap, hv, .inr ⟨g, rfl, (Array.getElem?_eq_some_iff.1 hg).1, fun i hi => ?_⟩⟩
    have hc := (hv ▸ h).cells (g := g) rfl i (.string l[i]) (by rw [List.getElem?_map, List.getElem?_eq_getElem hi]; rfl)
    rw [add_none, Nat.zero_add] at hc
    exact hc

def AllP (w : World) (r : AllR) (e : Ending) (w' : World) : Prop :=
  ∃ a1 c1 a2 c2, e = .returned (.tuple #[.slice a1 r.ids.length c1, .slice a2 r.bodies.length c2, .int .i64 r.bad, .int .i64 r.er]) ∧ IntRow w' a1 r.ids ∧ TextRow w' a2 r.bodies ∧ Below w.heap.size w w'

theorem info9 : (Try.prog.info? 9).map (fun i => (i.zero, i.size, i.bytes)) = some (some (.string ⟨#[]⟩), 1, 16) := by kernel_rfl
theorem under47 : Try.prog.underlying 47 = some (.slice 9) := by kernel_rfl
theorem cell_str_new {W : World} {b : Nat} {s : ByteArray} {t : TypeId} (h : W.heap[b]? = some (.cells #[.string s] t (0, 0))) : ∀ (j : Nat) (u : Value), [Value.string s][j]? = some u → W.cell? ((⟨b, 0, none⟩ : Addr).add j) = some u := by
  intro j u hu
  rw [add_none, cells_at h]
  rw [← hu]
  simp

/-- Between two pieces. -/
structure AlI (JX : JXT) (w wr : World) (F : Nat → Prop) (b : Nat) (most room : Int) (ops : List Op) (v1 v2 : Value) (ids : List Int) (bodies : List ByteArray) : Prop where
  j : JX wr F b most room ops
  new : ∀ k, F k → w.heap.size ≤ k
  n1 : ∀ g, v1.ownBlock = some g → ¬ F g
  n2 : ∀ g, v2.ownBlock = some g → ¬ F g
  n12 : ∀ g, v1.ownBlock = some g → ¬ v2.ownBlock = some g
  own1 : wr.ownsRow w.heap.size 3 1 v1 ids.length (ids.map encZ)
  own2 : wr.ownsRow w.heap.size 9 1 v2 bodies.length (bodies.map Value.string)
  below : Below w.heap.size w wr
  ok : OpsOk most ops

theorem ownsRow_but {W W' : World} {F : Nat → Prop} {base : Nat} {e : TypeId} {size : Nat} {v : Value} {n : Nat} {xs : List Value} (h : W.ownsRow base e size v n xs) (hb : But F W W') (hn : ∀ g, v.ownBlock = some g → ¬ F g) : W'.ownsRow base e size v n xs := by
  refine ⟨h.1, ?_⟩
  rcases h.2 with hv | ⟨g, cap, cur, hv, h0, hg, rest⟩
  · exact .inl hv
  · exact .inr ⟨g, cap, cur, hv, h0, hb.kept hg (hn g (by rw [hv]; rfl)), rest⟩

section
variable {JX : JXT} {w wr wx : World} {F : Nat → Prop} {b : Nat} {most room : Int} {ops : List Op} {v1 v2 v' : Value} {ids : List Int} {bodies : List ByteArray}

theorem AlI.later (L : JLaw JX) (h : AlI JX w wr F b most room ops v1 v2 ids bodies) (hb : Below wr.heap.size wr wx) : AlI JX w wx F b most room ops v1 v2 ids bodies :=
  ⟨L.below h.j hb, h.new, h.n1, h.n2, h.n12, ownsRow_below h.own1 hb, ownsRow_below h.own2 hb, h.below.trans (hb.mono h.below.size), h.ok⟩

theorem AlI.step (h : AlI JX w wr F b most room ops v1 v2 ids bodies) {m : List Op} (hs : StepX JX wr F b most room m wx) (ok : OpsOk most m) : ∃ F', AlI JX w wx F' b most room m v1 v2 ids bodies := by
  obtain ⟨F', h1, h2, h3⟩ := hs
  refine ⟨F', h1, fun k hk => ?_, fun g hg hk => ?_, fun g hg hk => ?_, h.n12, ownsRow_but h.own1 h3 h.n1, ownsRow_but h.own2 h3 h.n2, h.below.trans (h3.below h.below.size h.new), ok⟩
  · rcases h2 k hk with g | g
    · exact h.new k g
    · have := h.below.size; omega
  · rcases h2 g hk with g' | g'
    · exact h.n1 g hg g'
    · have := (h.own1.lt g hg).2; omega
  · rcases h2 g hk with g' | g'
    · exact h.n2 g hg g'
    · have := (h.own2.lt g hg).2; omega

theorem AlI.app1 (L : JLaw JX) (h : AlI JX w wr F b most room ops v1 v2 ids bodies) {x : Int} (hg : wr.grownBy wx v1.ownBlock) (ho : wx.ownsRow w.heap.size 3 1 v' (ids.length + 1) (ids.map encZ ++ [.int .i64 x])) (hl : v'.ownBlock = v1.ownBlock ∨ v'.ownBlock = some wr.heap.size) :
    AlI JX w wx F b most room ops v' v2 (ids ++ [x]) bodies := by
  have hb : But (fun k => v1.ownBlock = some k) wr wx := But.of_grown hg fun k e => e
  refine ⟨L.kept h.j hb fun k hk e => h.n1 k e hk, h.new, fun g hg' hk => ?_, h.n2, fun g hg' h2 => ?_, by rw [List.length_append, List.length_singleton, List.map_append]; exact ho, ownsRow_but h.own2 hb fun g h2 e => h.n12 g e h2, below_grown h.below h.own1 hg (Nat.le_refl _), h.ok⟩
  · rcases hl with e | e
    · exact h.n1 g (e.symm.trans hg') hk
    · have e1 := Option.some.inj (e.symm.trans hg')
      have e2 := L.few h.j g hk
      omega
  · rcases hl with e | e
    · exact h.n12 g (e.symm.trans hg') h2
    · have e1 := Option.some.inj (e.symm.trans hg')
      have e2 := (h.own2.lt g h2).2
      omega

theorem AlI.app2 (L : JLaw JX) (h : AlI JX w wr F b most room ops v1 v2 ids bodies) {x : ByteArray} (hg : wr.grownBy wx v2.ownBlock) (ho : wx.ownsRow w.heap.size 9 1 v' (bodies.length + 1) (bodies.map Value.string ++ [.string x])) (hl : v'.ownBlock = v2.ownBlock ∨ v'.ownBlock = some wr.heap.size) :
    AlI JX w wx F b most room ops v1 v' ids (bodies ++ [x]) := by
  have hb : But (fun k => v2.ownBlock = some k) wr wx := But.of_grown hg fun k e => e
  refine ⟨L.kept h.j hb fun k hk e => h.n2 k e hk, h.new, h.n1, fun g hg' hk => ?_, fun g h1 h2 => ?_, ownsRow_but h.own1 hb fun g h1 e => h.n12 g h1 e, by rw [List.length_append, List.length_singleton, List.map_append]; exact ho, below_grown h.below h.own2 hg (Nat.le_refl _), h.ok⟩
  · rcases hl with e | e
    · exact h.n2 g (e.symm.trans hg') hk
    · have e1 := Option.some.inj (e.symm.trans hg')
      have e2 := L.few h.j g hk
      omega
  · rcases hl with e | e
    · exact h.n12 g h1 (e.symm.trans h2)
    · have e1 := Option.some.inj (e.symm.trans h2)
      have e2 := (h.own1.lt g h1).2
      omega

theorem wpList_app1 (L : JLaw JX) (h : AlI JX w wr F b most room ops v1 v2 ids bodies) {x : Int} {os : Array Oper} {rest : List Oper} {o : Oper} {a : Act} {Q : Exit → Act → World → Prop} (hgd : o.guard = none) (s y : Operand)
    (ho : o.op = Op.call { callee := Callee.builtin Builtin.append, args := #[s, y], argTypes := #[41, 41] }) (hs : a.eval s = v1) (hy : a.eval y = .slice (some ⟨wr.heap.size, 0, none⟩) 1 1) (hl : ids.length ≤ 2000)
    (k : ∀ v' wx, AlI JX w wx F b most room ops v' v2 (ids ++ [x]) bodies → wpList Try.prog os Q rest (a.put o.dst v') wx) : wpList Try.prog os Q (o :: rest) a (wr.alloc (.cells #[.int .i64 x] 3)) := by
  obtain ⟨i3, hi3, hy0, hy1, hy2⟩ := info_parts info3i
  have hb := h.below.size
  refine wpList_append_own_at _ hgd s y 41 ho w.heap.size 3 i3 (.int .i64 0) 1 8 under41 hi3 hy0 hy1 hy2 rfl (by decide) v1 ids.length (ids.map encZ) hs (h.own1.alloc _) ⟨wr.heap.size, 0, none⟩ 1 1 [.int .i64 x] hy rfl (cell_int_new (heap_alloc_new _ _)) (by simp [Value.oneCell']) (by unfold maxLen; omega) (by omega) (by simp; omega) ?_
  intro v' w5 hown' hgrow _ hloc
  exact k v' w5 (AlI.app1 L (h.later L ((Below.refl _ _).alloc (Nat.le_refl _) _)) hgrow hown' hloc)

theorem wpList_app2 (L : JLaw JX) (h : AlI JX w wr F b most room ops v1 v2 ids bodies) {x : ByteArray} {os : Array Oper} {rest : List Oper} {o : Oper} {a : Act} {Q : Exit → Act → World → Prop} (hgd : o.guard = none) (s y : Operand)
    (ho : o.op = Op.call { callee := Callee.builtin Builtin.append, args := #[s, y], argTypes := #[47, 47] }) (hs : a.eval s = v2) (hy : a.eval y = .slice (some ⟨wr.heap.size, 0, none⟩) 1 1) (hl : bodies.length ≤ 2000)
    (k : ∀ v' wx, AlI JX w wx F b most room ops v1 v' ids (bodies ++ [x]) → wpList Try.prog os Q rest (a.put o.dst v') wx) : wpList Try.prog os Q (o :: rest) a (wr.alloc (.cells #[.string x] 9)) := by
  obtain ⟨i9, hi9, hx0, hx1, hx2⟩ := info_parts info9
  have hb := h.below.size
  refine wpList_append_own_at _ hgd s y 47 ho w.heap.size 9 i9 (.string ⟨#[]⟩) 1 16 under47 hi9 hx0 hx1 hx2 rfl (by decide) v2 bodies.length (bodies.map Value.string) hs (h.own2.alloc _) ⟨wr.heap.size, 0, none⟩ 1 1 [.string x] hy rfl (cell_str_new (heap_alloc_new _ _)) (by simp [Value.oneCell']) (by unfold maxLen; omega) (by omega) (by simp; omega) ?_
  intro v' w5 hown' hgrow _ hloc
  exact k v' w5 (AlI.app2 L (h.later L ((Below.refl _ _).alloc (Nat.le_refl _) _)) hgrow hown' hloc)

theorem AlI.fin (h : AlI JX w wr F b most room ops v1 v2 ids bodies) (bad er : Int) : AllP w ⟨ids, bodies, bad, er⟩ (.returned (.tuple #[v1, v2, .int .i64 bad, .int .i64 er])) wr := by
  obtain ⟨a1, c1, rfl, h1⟩ := IntNew.of_own h.own1
  obtain ⟨a2, c2, rfl, h2⟩ := TextRow.of_own h.own2
  exact ⟨a1, c1, a2, c2, rfl, h1.row, h2, h.below⟩

/-- The piece lies in its block behind Take. -/
theorem step_far {m : List Op} {o : Obj} (L : JLaw JX) (h : JX wr F b most room ops) (hs : StepX JX (wr.alloc o) F b most room m wx) : wx.heap[wr.heap.size]? = some o := by
  obtain ⟨F', h1, h2, h3⟩ := hs
  exact h3.kept (heap_alloc_new wr o) fun g => by have := L.few h _ g; omega
end

theorem allR_cons {most room : Int} {ops : List Op} {p : Pc} {r : List Pc} {i : Int} {a : List Int} {c : List ByteArray} {t : Took} (ht : took most room ops p = t) :
    allR most room ops (p :: r) i a c = if t.er = 0 then (if t.whole = true then allR most room t.l r (i + 1) (a ++ [p.id]) (c ++ [t.body]) else allR most room t.l r (i + 1) a c) else ⟨a, c, i, t.er⟩ := by
  rw [allR, ht]

set_option maxRecDepth 100000 in
set_option maxHeartbeats 2000000 in
theorem sameT_eq (ao1 ao2 : Option Addr) (cap1 cap2 : Nat) (l : List ByteArray) (w : World) (h1 : TextRow w ao1 l) (h2 : TextRow w ao2 l) (hl : l.length ≤ 100000) :
    Calls Try.prog 25 #[.slice ao1 l.length cap1, .slice ao2 l.length cap2] w fun e w' => e = .returned (.bool true) ∧ Below w.heap.size w w' := by
  have H1 := Lib.hid h1
  have H2 := Lib.hid h2
  clear h1 h2
  go_enter Try.func25, Try.ntmps25
  go_wp2_with fail
  go_loopw [13] (fun i wr => ∃ k : Nat, i = .int .i64 k ∧ k ≤ l.length ∧ Below w.heap.size w wr) (fun i _ => l.length - (intOf i).toNat)
  case atStart => exact ⟨0, rfl, Nat.zero_le _, Below.refl _ _⟩
  case round =>
    obtain ⟨k, rfl, hk, hbel⟩ := hrel
    have HB := Lib.hid hbel
    clear hbel
    by_cases hlt : k < l.length
    · rcases H1.out with h0 | ⟨b, rfl, hb, hp⟩
      · subst h0; exact absurd hlt (by simp)
      rcases H2.out with h0 | ⟨b', rfl, hb', hp'⟩
      · subst h0; exact absurd hlt (by simp)
      have c0 := (HB.out.cell (p := ⟨b, k, none⟩) hb).trans (hp k hlt)
      have d0 := (HB.out.cell (p := ⟨b', k, none⟩) hb').trans (hp' k hlt)
      obtain ⟨p, hpp⟩ : ∃ p, l[k] = p := ⟨_, rfl⟩
      rw [hpp] at c0 d0
      have HLT := Lib.hid hlt
      have hk1 : (k : Int) < (l.length : Int) := by omega
      have hk2 : (k : Int) + 1 ≤ 1000000 := by omega
      have hk0 : (0 : Int) ≤ (k : Int) := by omega
      clear hpp hp hp'
      go_wp2_with fail
      go_quiet (fail)
      go_wp2_with fail
      exact ⟨⟨k + 1, by go_num, HLT.out, HB.out.trans ((below_drewN' _ _).mono HB.out.size)⟩, by simp [intOf]; have := HLT.out; omega⟩
    · obtain rfl : k = l.length := by omega
      go_wp2_with fail
      go_ret
      exact ⟨rfl, HB.out⟩

set_option maxRecDepth 100000 in
set_option maxHeartbeats 4000000 in
theorem fall_any (ao : Option Addr) (cap : Nat) (l : List Pc) (most room : Int) (w : World) (h : RowAt w ao l) :
    Calls Try.prog 23 #[.slice ao l.length cap, .int .i64 most, .int .i64 room] w (AllP w (allT most room l)) := by
  have HR := Lib.hid h
  have NW := Lib.hid fun wx => fnewX most room wx
  clear h
  unfold allT
  by_cases hl : 2000 < l.length
  · have e1 : (2000 : Int) < (l.length : Int) := by omega
    have e2 : decide ((2000 : Int) < (l.length : Int)) = true := decide_eq_true e1
    rw [if_pos hl]
    clear hl
    go_enter Try.func23, Try.ntmps23
    go_wp2_with fail
    (try simp only [Exit.inBlock, Exit.then])
    refine bodyPost_ret (results_four rfl _ _ _) rfl ?_
    exact ⟨none, 0, none, 0, rfl, .inl rfl, .inl rfl, Below.refl _ _⟩
  have e1 : ¬ (2000 : Int) < (l.length : Int) := by omega
  have e2 : decide ((2000 : Int) < (l.length : Int)) = false := decide_eq_false e1
  rw [if_neg hl]
  unfold NewX at NW
  cases hb : limB most room with
  | false =>
    rw [if_neg (by decide)]
    simp only [hb, Bool.false_eq_true, if_false] at NW
    clear hb
    go_enter Try.func23, Try.ntmps23
    go_wp2_with (go_at_call 8; refine (NW.out _).mono ?_; rintro e w1 ⟨rfl, rfl⟩)
    (try simp only [Exit.inBlock, Exit.then])
    refine bodyPost_ret (results_four rfl _ _ _) rfl ?_
    exact ⟨none, 0, none, 0, rfl, .inl rfl, .inl rfl, Below.refl _ _⟩
  | true =>
    rw [if_pos rfl]
    simp only [hb, if_true] at NW
    have HLM := Lib.hid hb
    have HLN : Hid (l.length ≤ 2000) := Lib.hid (by omega)
    clear hb hl
    go_enter Try.func23, Try.ntmps23
    go_wp2_with (go_at_call 8; refine (NW.out _).mono ?_; rintro e w1 ⟨b, F, rfl, hj, hnew, hb1⟩; have HJ := Lib.hid hj; have HNEW := Lib.hid hnew; have HB1 := Lib.hid hb1; clear hj hnew hb1)
    go_loopw [6, 7, 30] (fun v1 v2 i wr => ∃ k : Nat, i = .int .i64 k ∧ k ≤ l.length ∧ ∃ ops a c F, allR most room [] l 0 [] [] = allR most room ops (l.drop k) k a c ∧ a.length ≤ k ∧ c.length ≤ k ∧ AlI FX w wr F b most room ops v1 v2 a c) (fun _ _ i _ => l.length - (intOf i).toNat)
    case atStart => exact ⟨0, rfl, Nat.zero_le _, [], [], [], F, rfl, Nat.le_refl _, Nat.le_refl _, HJ.out, HNEW.out, fun g hg => by simp [Value.ownBlock] at hg, fun g hg => by simp [Value.ownBlock] at hg, fun g hg => by simp [Value.ownBlock] at hg, World.ownsRow_nil _ _ _ _, World.ownsRow_nil _ _ _ _, HB1.out, by have := (limB_spec HLM.out).1; exact ⟨by simp; omega, fun x hx => by simp at hx, fun x hx => by simp at hx⟩⟩
    case round =>
      obtain ⟨k, rfl, hk, ops, a, c, F', hall, hal, hcl, hI⟩ := hrel
      have HI := Lib.hid hI
      have HA := Lib.hid hall
      have HAL : Hid (a.length ≤ 2000 ∧ c.length ≤ 2000) := Lib.hid (by have := HLN.out; omega)
      have HAK := Lib.hid (And.intro hal hcl)
      clear hI hall hal hcl
      by_cases hlt : k < l.length
      · rcases HR.out with h0 | ⟨bb, off, rfl, hbb, hp⟩
        · subst h0; exact absurd hlt (by simp)
        obtain ⟨c0, c1, c2, c3⟩ := (hp.below HI.out.below hbb) k hlt
        have hdr : l.drop k = l[k] :: l.drop (k + 1) := List.drop_eq_getElem_cons hlt
        obtain ⟨p, hpp⟩ : ∃ p, l[k] = p := ⟨_, rfl⟩
        rw [hpp] at c0 c1 c2 c3 hdr
        obtain ⟨i, pl, m, bd⟩ := p
        simp only at c0 c1 c2 c3
        have hb1 : Below wr.heap.size wr (wr.alloc (pcO i pl m bd)) := (Below.refl _ _).alloc (Nat.le_refl _) _
        have HI1 := Lib.hid (HI.out.later fx hb1)
        have TK := Lib.hid (ftakeX b most room ops i pl m bd F' (wr.alloc (pcO i pl m bd)) HI1.out.j HI.out.ok HLM.out)
        obtain ⟨t, ht⟩ : ∃ t, took most room ops ⟨i, pl, m, bd⟩ = t := ⟨_, rfl⟩
        have hst := allR_cons (r := l.drop (k + 1)) (i := (k : Int)) (a := a) (c := c) ht
        have hok := HI.out.ok.took (room := room) ⟨i, pl, m, bd⟩
        rw [ht] at TK hok
        rw [← hdr] at hst
        obtain ⟨tl, tb, tw, te⟩ := t
        unfold TakeX at TK
        simp only at TK hst hok
        have HOK := Lib.hid hok
        have hk1 : (k : Int) < (l.length : Int) := by omega
        have hk2 : (k : Int) + 1 ≤ 2001 := by have := HLN.out; omega
        have hk0 : (0 : Int) ≤ (k : Int) := by omega
        have HLT := Lib.hid hlt
        clear hpp hp hb1 ht hdr hok
        by_cases he : te = 0
        · subst he
          rw [if_pos rfl] at hst
          cases tw with
          | false =>
            simp only [Bool.false_eq_true, if_false] at hst
            have HST := Lib.hid hst
            clear hst
            go_wp2_with (go_at_call 17; refine TK.out.mono ?_; rintro e w3 ⟨rfl, hs⟩; have HI3 := Lib.hid (HI1.out.step hs HOK.out); clear hs)
            obtain ⟨F3, hI3⟩ := HI3.out
            exact ⟨⟨k + 1, by go_num, HLT.out, tl, a, c, F3, by rw [HA.out, HST.out]; rfl, by have := HAK.out; omega, by have := HAK.out; omega, hI3⟩, by simp [intOf]; have := HLT.out; omega⟩
          | true =>
            simp only [if_true] at hst
            have HST := Lib.hid hst
            clear hst
            go_wp2_with (first
              | (go_at_call 17; refine TK.out.mono ?_; rintro e w3 ⟨rfl, hs⟩; have hp3 := step_far fx HI.out.j hs; have q0 := cells_at hp3 0; have hI3 := HI1.out.step hs HOK.out; obtain ⟨F3, hI3⟩ := hI3; have HI3 := Lib.hid hI3; clear hs hI3 hp3)
              | (at_builtin; refine wpList_app1 fx HI3.out (by rfl) _ _ (by rfl) (by rfl) (by rfl) HAL.out.1 ?_; intro v' w5 hI5; clear HI3; have HI3 := Lib.hid hI5; clear hI5)
              | (at_builtin; refine wpList_app2 fx HI3.out (by rfl) _ _ (by rfl) (by rfl) (by rfl) HAL.out.2 ?_; intro v7 w7 hI7; clear HI3; have HI7 := Lib.hid hI7; clear hI7))
            exact ⟨⟨k + 1, by go_num, HLT.out, tl, a ++ [i], c ++ [tb], F3, by rw [HA.out, HST.out]; rfl, by have := HAK.out; simp; omega, by have := HAK.out; simp; omega, HI7.out⟩, by simp [intOf]; have := HLT.out; omega⟩
        · have e5 : decide (te = 0) = false := decide_eq_false he
          rw [if_neg he] at hst
          have HST := Lib.hid hst
          clear hst hk2 hk0
          go_wp2_with (go_at_call 17; refine TK.out.mono ?_; rintro e w3 ⟨rfl, hs⟩; have HI3 := Lib.hid (HI1.out.step hs HOK.out); clear hs)
          (try simp only [Exit.inBlock, Exit.then])
          refine bodyPost_ret (results_four rfl _ _ _) rfl ?_
          obtain ⟨F3, hI3⟩ := HI3.out
          rw [HA.out, HST.out]
          exact hI3.fin _ _
      · obtain rfl : k = l.length := by omega
        have HST : Hid (allR most room ops (l.drop l.length) l.length a c = ⟨a, c, -1, 0⟩) := Lib.hid (by rw [List.drop_length]; rfl)
        go_wp2_with fail
        (try simp only [Exit.inBlock, Exit.then])
        refine bodyPost_ret (results_four rfl _ _ _) rfl ?_
        rw [HA.out, HST.out]
        exact HI.out.fin _ _

set_option maxRecDepth 100000 in
set_option maxHeartbeats 4000000 in
theorem rall_any (ao : Option Addr) (cap : Nat) (l : List Pc) (most room : Int) (w : World) (h : RowAt w ao l) :
    Calls Try.prog 24 #[.slice ao l.length cap, .int .i64 most, .int .i64 room] w (AllP w (allT most room l)) := by
  have HR := Lib.hid h
  have NW := Lib.hid fun wx => rnewX most room wx
  clear h
  unfold allT
  by_cases hl : 2000 < l.length
  · have e1 : (2000 : Int) < (l.length : Int) := by omega
    have e2 : decide ((2000 : Int) < (l.length : Int)) = true := decide_eq_true e1
    rw [if_pos hl]
    clear hl
    go_enter Try.func24, Try.ntmps24
    go_wp2_with fail
    (try simp only [Exit.inBlock, Exit.then])
    refine bodyPost_ret (results_four rfl _ _ _) rfl ?_
    exact ⟨none, 0, none, 0, rfl, .inl rfl, .inl rfl, Below.refl _ _⟩
  have e1 : ¬ (2000 : Int) < (l.length : Int) := by omega
  have e2 : decide ((2000 : Int) < (l.length : Int)) = false := decide_eq_false e1
  rw [if_neg hl]
  unfold NewX at NW
  cases hb : limB most room with
  | false =>
    rw [if_neg (by decide)]
    simp only [hb, Bool.false_eq_true, if_false] at NW
    clear hb
    go_enter Try.func24, Try.ntmps24
    go_wp2_with (go_at_call 9; refine (NW.out _).mono ?_; rintro e w1 ⟨rfl, rfl⟩)
    (try simp only [Exit.inBlock, Exit.then])
    refine bodyPost_ret (results_four rfl _ _ _) rfl ?_
    exact ⟨none, 0, none, 0, rfl, .inl rfl, .inl rfl, Below.refl _ _⟩
  | true =>
    rw [if_pos rfl]
    simp only [hb, if_true] at NW
    have HLM := Lib.hid hb
    have HLN : Hid (l.length ≤ 2000) := Lib.hid (by omega)
    clear hb hl
    go_enter Try.func24, Try.ntmps24
    go_wp2_with (go_at_call 9; refine (NW.out _).mono ?_; rintro e w1 ⟨b, F, rfl, hj, hnew, hb1⟩; have HJ := Lib.hid hj; have HNEW := Lib.hid hnew; have HB1 := Lib.hid hb1; clear hj hnew hb1)
    go_loopw [6, 7, 30] (fun v1 v2 i wr => ∃ k : Nat, i = .int .i64 k ∧ k ≤ l.length ∧ ∃ ops a c F, allR most room [] l 0 [] [] = allR most room ops (l.drop k) k a c ∧ a.length ≤ k ∧ c.length ≤ k ∧ AlI RX w wr F b most room ops v1 v2 a c) (fun _ _ i _ => l.length - (intOf i).toNat)
    case atStart => exact ⟨0, rfl, Nat.zero_le _, [], [], [], F, rfl, Nat.le_refl _, Nat.le_refl _, HJ.out, HNEW.out, fun g hg => by simp [Value.ownBlock] at hg, fun g hg => by simp [Value.ownBlock] at hg, fun g hg => by simp [Value.ownBlock] at hg, World.ownsRow_nil _ _ _ _, World.ownsRow_nil _ _ _ _, HB1.out, by have := (limB_spec HLM.out).1; exact ⟨by simp; omega, fun x hx => by simp at hx, fun x hx => by simp at hx⟩⟩
    case round =>
      obtain ⟨k, rfl, hk, ops, a, c, F', hall, hal, hcl, hI⟩ := hrel
      have HI := Lib.hid hI
      have HA := Lib.hid hall
      have HAL : Hid (a.length ≤ 2000 ∧ c.length ≤ 2000) := Lib.hid (by have := HLN.out; omega)
      have HAK := Lib.hid (And.intro hal hcl)
      clear hI hall hal hcl
      by_cases hlt : k < l.length
      · rcases HR.out with h0 | ⟨bb, off, rfl, hbb, hp⟩
        · subst h0; exact absurd hlt (by simp)
        obtain ⟨c0, c1, c2, c3⟩ := (hp.below HI.out.below hbb) k hlt
        have hdr : l.drop k = l[k] :: l.drop (k + 1) := List.drop_eq_getElem_cons hlt
        obtain ⟨p, hpp⟩ : ∃ p, l[k] = p := ⟨_, rfl⟩
        rw [hpp] at c0 c1 c2 c3 hdr
        obtain ⟨i, pl, m, bd⟩ := p
        simp only at c0 c1 c2 c3
        have hb1 : Below wr.heap.size wr (wr.alloc (pcO i pl m bd)) := (Below.refl _ _).alloc (Nat.le_refl _) _
        have HI1 := Lib.hid (HI.out.later rx hb1)
        have TK := Lib.hid (rtakeX b most room ops i pl m bd F' (wr.alloc (pcO i pl m bd)) HI1.out.j HI.out.ok HLM.out)
        obtain ⟨t, ht⟩ : ∃ t, took most room ops ⟨i, pl, m, bd⟩ = t := ⟨_, rfl⟩
        have hst := allR_cons (r := l.drop (k + 1)) (i := (k : Int)) (a := a) (c := c) ht
        have hok := HI.out.ok.took (room := room) ⟨i, pl, m, bd⟩
        rw [ht] at TK hok
        rw [← hdr] at hst
        obtain ⟨tl, tb, tw, te⟩ := t
        unfold TakeX at TK
        simp only at TK hst hok
        have HOK := Lib.hid hok
        have hk1 : (k : Int) < (l.length : Int) := by omega
        have hk2 : (k : Int) + 1 ≤ 2001 := by have := HLN.out; omega
        have hk0 : (0 : Int) ≤ (k : Int) := by omega
        have HLT := Lib.hid hlt
        clear hpp hp hb1 ht hdr hok
        by_cases he : te = 0
        · subst he
          rw [if_pos rfl] at hst
          cases tw with
          | false =>
            simp only [Bool.false_eq_true, if_false] at hst
            have HST := Lib.hid hst
            clear hst
            go_wp2_with (go_at_call 18; refine TK.out.mono ?_; rintro e w3 ⟨rfl, hs⟩; have HI3 := Lib.hid (HI1.out.step hs HOK.out); clear hs)
            obtain ⟨F3, hI3⟩ := HI3.out
            exact ⟨⟨k + 1, by go_num, HLT.out, tl, a, c, F3, by rw [HA.out, HST.out]; rfl, by have := HAK.out; omega, by have := HAK.out; omega, hI3⟩, by simp [intOf]; have := HLT.out; omega⟩
          | true =>
            simp only [if_true] at hst
            have HST := Lib.hid hst
            clear hst
            go_wp2_with (first
              | (go_at_call 18; refine TK.out.mono ?_; rintro e w3 ⟨rfl, hs⟩; have hp3 := step_far rx HI.out.j hs; have q0 := cells_at hp3 0; have hI3 := HI1.out.step hs HOK.out; obtain ⟨F3, hI3⟩ := hI3; have HI3 := Lib.hid hI3; clear hs hI3 hp3)
              | (at_builtin; refine wpList_app1 rx HI3.out (by rfl) _ _ (by rfl) (by rfl) (by rfl) HAL.out.1 ?_; intro v' w5 hI5; clear HI3; have HI3 := Lib.hid hI5; clear hI5)
              | (at_builtin; refine wpList_app2 rx HI3.out (by rfl) _ _ (by rfl) (by rfl) (by rfl) HAL.out.2 ?_; intro v7 w7 hI7; clear HI3; have HI7 := Lib.hid hI7; clear hI7))
            exact ⟨⟨k + 1, by go_num, HLT.out, tl, a ++ [i], c ++ [tb], F3, by rw [HA.out, HST.out]; rfl, by have := HAK.out; simp; omega, by have := HAK.out; simp; omega, HI7.out⟩, by simp [intOf]; have := HLT.out; omega⟩
        · have e5 : decide (te = 0) = false := decide_eq_false he
          rw [if_neg he] at hst
          have HST := Lib.hid hst
          clear hst hk2 hk0
          go_wp2_with (go_at_call 18; refine TK.out.mono ?_; rintro e w3 ⟨rfl, hs⟩; have HI3 := Lib.hid (HI1.out.step hs HOK.out); clear hs)
          (try simp only [Exit.inBlock, Exit.then])
          refine bodyPost_ret (results_four rfl _ _ _) rfl ?_
          obtain ⟨F3, hI3⟩ := HI3.out
          rw [HA.out, HST.out]
          exact hI3.fin _ _
      · obtain rfl : k = l.length := by omega
        have HST : Hid (allR most room ops (l.drop l.length) l.length a c = ⟨a, c, -1, 0⟩) := Lib.hid (by rw [List.drop_length]; rfl)
        go_wp2_with fail
        (try simp only [Exit.inBlock, Exit.then])
        refine bodyPost_ret (results_four rfl _ _ _) rfl ?_
        rw [HA.out, HST.out]
        exact HI.out.fin _ _

end Go.Proofs.Yteblbpdpfegooaa
