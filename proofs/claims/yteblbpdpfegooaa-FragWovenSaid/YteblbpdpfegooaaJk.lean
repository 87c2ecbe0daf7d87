/- The joiner of frag in memory: what it holds, behind a message that is dropped or put. -/
import Derived.Test.YteblbpdpfegooaaJj
import Derived.Test.YteblbpdpfegooaaJd
namespace Go.Proofs.Yteblbpdpfegooaa
open Go.RowKit Go.Sort Go.BigFrame Go.Maps

theorem mem_idsO {l : List Op} {i : Int} : i ∈ idsO l ↔ ∃ x ∈ l, x.id = i := by unfold idsO; simp

theorem idxO_isSome {l : List Op} {i : Int} : (idxO l i).isSome = true ↔ i ∈ idsO l := by
  induction l with
  | nil => simp [idxO, idsO]
  | cons x r ih =>
    rw [idxO]
    by_cases h : x.id = i
    · simp [h, idsO]
    · rw [if_neg h, Option.isSome_map, ih]
      unfold idsO
      simp only [List.map_cons, List.mem_cons]
      exact ⟨.inr, fun g => g.resolve_left fun e => h e.symm⟩

def dropO (l : List Op) (id : Int) : List Op := match idxO l id with | none => l | some i => l.eraseIdx i
def putO (l : List Op) (x : Op) : List Op := match idxO l x.id with | none => l ++ [x] | some i => l.set i x

theorem nodup_at {l : List Op} (h : (idsO l).Nodup) {i j : Nat} (hi : i < l.length) (hj : j < l.length) (e : l[i].id = l[j].id) : i = j := by
  have h1 : (idsO l)[i]'(by simpa [idsO] using hi) = (idsO l)[j]'(by simpa [idsO] using hj) := by simpa [idsO] using e
  have hp := List.pairwise_iff_getElem.1 h
  rcases Nat.lt_trichotomy i j with g | g | g
  · exact absurd h1 (hp i j _ _ g)
  · exact g
  · exact absurd h1.symm (hp j i _ _ g)

theorem mem_dropO {l : List Op} (h : (idsO l).Nodup) (id : Int) (y : Op) : y ∈ dropO l id ↔ y ∈ l ∧ ¬ y.id = id := by
  unfold dropO
  cases hi : idxO l id with
  | none =>
    simp only
    refine ⟨fun g => ⟨g, fun e => ?_⟩, fun g => g.1⟩
    have := idxO_isSome.2 (mem_idsO.2 ⟨y, g, e⟩)
    rw [hi] at this; cases this
  | some i =>
    obtain ⟨h1, h2, h3⟩ := idxO_lt hi
    simp only [List.mem_eraseIdx_iff_getElem?]
    constructor
    · rintro ⟨j, hji, hj⟩
      obtain ⟨hjl, rfl⟩ := List.getElem?_eq_some_iff.1 hj
      exact ⟨List.getElem_mem hjl, fun e => hji (nodup_at h hjl h1 (e.trans h2.symm))⟩
    · rintro ⟨g, hne⟩
      obtain ⟨j, hj, rfl⟩ := List.getElem_of_mem g
      exact ⟨j, fun e => hne (by subst e; exact h2), List.getElem?_eq_getElem hj⟩

theorem ids_dropO {l : List Op} (h : (idsO l).Nodup) (id : Int) : (idsO (dropO l id)).Nodup := by
  unfold dropO
  split
  · exact h
  · exact h.sublist ((List.eraseIdx_sublist ..).map _)

theorem idsO_set {l : List Op} {i : Nat} {x : Op} (h : i < l.length) (e : l[i].id = x.id) : idsO (l.set i x) = idsO l := by
  unfold idsO
  rw [List.map_set]
  apply List.ext_getElem (by simp)
  intro j h1 h2
  rw [List.getElem_set]
  split
  · subst_vars; simpa using e.symm
  · rfl

theorem ids_putO {l : List Op} (h : (idsO l).Nodup) (x : Op) : (idsO (putO l x)).Nodup := by
  unfold putO
  cases hi : idxO l x.id with
  | none =>
    simp only
    unfold idsO
    rw [List.map_append]
    refine List.nodup_append.2 ⟨h, by simp, ?_⟩
    intro a ha b hb e
    simp only [List.map_cons, List.map_nil, List.mem_singleton] at hb
    subst hb
    subst e
    have := idxO_isSome.2 ha
    rw [hi] at this; cases this
  | some i =>
    obtain ⟨h1, h2, h3⟩ := idxO_lt hi
    simp only
    rw [idsO_set h1 h2]
    exact h

theorem mem_putO {l : List Op} (h : (idsO l).Nodup) (x y : Op) : y ∈ putO l x ↔ y = x ∨ (y ∈ l ∧ ¬ y.id = x.id) := by
  unfold putO
  cases hi : idxO l x.id with
  | none =>
    simp only [List.mem_append, List.mem_singleton]
    constructor
    · rintro (g | g)
      · refine .inr ⟨g, fun e => ?_⟩
        have := idxO_isSome.2 (mem_idsO.2 ⟨y, g, e⟩)
        rw [hi] at this; cases this
      · exact .inl g
    · rintro (g | g)
      · exact .inr g
      · exact .inl g.1
  | some i =>
    obtain ⟨h1, h2, h3⟩ := idxO_lt hi
    simp only
    constructor
    · intro g
      obtain ⟨j, hj, rfl⟩ := List.getElem_of_mem g
      rw [List.length_set] at hj
      rw [List.getElem_set]
      split
      · exact .inl rfl
      · rename_i hne
        exact .inr ⟨List.getElem_mem hj, fun e => hne (nodup_at h h1 hj (h2.trans e.symm))⟩
    · rintro (rfl | ⟨g, hne⟩)
      · exact List.mem_set h1 _
      · obtain ⟨j, hj, rfl⟩ := List.getElem_of_mem g
        have hij : ¬ i = j := fun e => hne (by subst e; exact h2)
        exact List.mem_iff_getElem.2 ⟨j, by simpa using hj, by rw [List.getElem_set_ne hij]⟩

theorem bytesO_erase : ∀ {l : List Op} {i : Nat} (h : i < l.length), bytesO (l.eraseIdx i) + l[i].body.size = bytesO l
  | x :: r, 0, _ => by simp [bytesO]; omega
  | x :: r, i + 1, h => by
    have := bytesO_erase (l := r) (i := i) (by simpa using h)
    simp only [List.eraseIdx_cons_succ, bytesO, List.getElem_cons_succ]
    omega
theorem bytesO_set : ∀ {l : List Op} {i : Nat} (h : i < l.length) (x : Op), bytesO (l.set i x) + l[i].body.size = bytesO l + x.body.size
  | y :: r, 0, _, x => by simp [bytesO]; omega
  | y :: r, i + 1, h, x => by
    have := bytesO_set (l := r) (i := i) (by simpa using h) x
    simp only [List.set_cons_succ, bytesO, List.getElem_cons_succ]
    omega

def joinerO (most room : Int) (mb : Nat) (bs : Int) : Obj := .cells #[.int .i64 most, .int .i64 room, .map (some mb), .int .i64 bs] 60

/-- The joiner of frag lies in block b, its map in block mb; loc tells where each body lies. -/
structure FJ (w : World) (F : Nat → Prop) (b mb : Nat) (most room : Int) (D : DataW Unit) (loc : Int → Nat × Nat) (l : List Op) : Prop where
  blk : w.heap[b]? = some (joinerO most room mb (bytesO l))
  own : w.ownsMap Try.prog 3 msgE mb 1000 D
  nodup : (idsO l).Nodup
  has : ∀ i, Maps.has D (.int .i64 i) = true ↔ i ∈ idsO l
  val : ∀ x ∈ l, ∀ z, D.atKey (.int .i64 x.id) z = msgD (loc x.id).1 x.body.size (loc x.id).2 x.pieces
  row : ∀ x ∈ l, RowM w (loc x.id).1 (loc x.id).2 x.body
  frow : ∀ x ∈ l, F (loc x.id).1 ∧ ¬ (loc x.id).1 = b ∧ ¬ (loc x.id).1 = mb
  inj : ∀ x ∈ l, ∀ y ∈ l, (loc x.id).1 = (loc y.id).1 → x.id = y.id
  fb : F b
  fm : F mb
  ne : ¬ b = mb
  few : ∀ k, F k → k < w.heap.size

section
variable {w w' : World} {F G : Nat → Prop} {b mb : Nat} {most room : Int} {D : DataW Unit} {loc : Int → Nat × Nat} {l : List Op}

theorem ownsMap_keep {n : Nat} {R : Value → Option (DataW Unit × List MemPlace)} (h : w.ownsMap Try.prog 3 R mb n D) (hb : w'.heap[mb]? = w.heap[mb]?) : w'.ownsMap Try.prog 3 R mb n D := by
  obtain ⟨es, clock, h1, rest⟩ := h
  exact ⟨es, clock, hb.trans h1, rest⟩

theorem ownsMap_fit {n : Nat} {R : Value → Option (DataW Unit × List MemPlace)} (h : w.ownsMap Try.prog 3 R mb n D) : w.ownsMap Try.prog 3 R mb (Maps.size D) D := by
  obtain ⟨es, clock, h1, h2, _, h4⟩ := h
  refine ⟨es, clock, h1, h2, ?_, h4⟩
  subst h4
  simp [Maps.size, length_sorted]

theorem FJ.kept (h : FJ w F b mb most room D loc l) (hb : But G w w') (hFG : ∀ k, F k → ¬ G k) : FJ w' F b mb most room D loc l :=
  ⟨hb.kept h.blk (hFG _ h.fb), ownsMap_keep h.own (hb.block _ (h.few _ h.fm) (hFG _ h.fm)), h.nodup, h.has, h.val, fun x hx => (h.row x hx).keep (hb.block _ (h.row x hx).lt (hFG _ (h.frow x hx).1)), h.frow, h.inj, h.fb, h.fm, h.ne, fun k hk => Nat.lt_of_lt_of_le (h.few k hk) hb.size⟩

theorem FJ.below (h : FJ w F b mb most room D loc l) (hb : Below w.heap.size w w') : FJ w' F b mb most room D loc l :=
  h.kept (But.of_below (F := fun _ => False) hb) fun _ _ g => g

/-- What stands at a number's key. -/
def msgAt (loc : Int → Nat × Nat) (l : List Op) (id : Int) : Value := match idxO l id with
  | none => msg0
  | some i => msgV (loc id).1 (l.getD i default).body.size (loc id).2 (l.getD i default).pieces

theorem FJ.value (h : FJ w F b mb most room D loc l) {id : Int} {v : Value} {ps : List MemPlace} (hv : msgE v = some (D.atKey (.int .i64 id) (.agg []), ps)) : v = msgAt loc l id := by
  unfold msgAt
  cases hi : idxO l id with
  | none =>
    have hn : Maps.has D (.int .i64 id) = false := by
      cases hh : Maps.has D (.int .i64 id)
      · rfl
      · have := idxO_isSome.2 ((h.has id).1 hh)
        rw [hi] at this; cases this
    rw [atKey_of_not_has hn] at hv
    exact msgE_inv0 hv
  | some i =>
    obtain ⟨h1, h2, h3⟩ := idxO_lt hi
    have h4 := h.val l[i] (List.getElem_mem h1) (.agg [])
    rw [h2] at h4
    rw [h4] at hv
    simp only [getD_at h1]
    exact msgE_inv hv

theorem FJ.look (h : FJ w F b mb most room D loc l) {id : Int} (hn : numB id = true) : (Instr.lookup 58 (.map (some mb)) (.int .i64 id) true).run Try.prog w = .ok (.tuple #[msgAt loc l id, .bool (idxO l id).isSome]) w := by
  obtain ⟨v, ps, hr, hv⟩ := h.own.look_ok key3 under58 (zero66 w) msgE_zero (keyOf_num hn)
  rw [hr, h.value hv]
  have e : Maps.has D (.int .i64 id) = (idxO l id).isSome := by rw [Bool.eq_iff_iff, h.has, idxO_isSome]
  rw [e]

theorem FJ.look1 (h : FJ w F b mb most room D loc l) {id : Int} (hn : numB id = true) : (Instr.lookup 58 (.map (some mb)) (.int .i64 id) false).run Try.prog w = .ok (msgAt loc l id) w := by
  obtain ⟨v, ps, hr, hv⟩ := h.own.lookup key3 under58 (zero66 w) msgE_zero (keyOf_num hn)
  rw [hr, h.value hv]

theorem FJ.perm (h : FJ w F b mb most room D loc l) : (idsO l).Perm (intKeys D) := by
  obtain ⟨es, hD, hpw, _⟩ := h.own.entries key3
  obtain ⟨es', hD', hko⟩ := h.own.keysOf
  obtain rfl : es = es' := by rw [hD] at hD'; simpa using hD'
  have hh := h.has
  subst hD
  exact perm_intKeys hpw (fun p hp => by obtain ⟨v, hv⟩ := hko p hp; obtain ⟨x, _, hx, _⟩ := Maps.keyOf_i64 Try.underlying3 hv; exact ⟨x, hx⟩) h.nodup (fun x => (hh x).symm)

theorem FJ.size (h : FJ w F b mb most room D loc l) : Maps.size D = l.length := by
  have h1 := h.perm.length_eq
  have h2 : (idsO l).length = l.length := by simp [idsO]
  have h3 : (intKeys D).length = Maps.size D := by
    obtain ⟨es, rfl⟩ := h.own.isMap
    simp [intKeys, Maps.size]
  omega

/-- What is behind a delete. -/
theorem FJ.drop (h : FJ w F b mb most room D loc l) (id : Int) (hb : w'.heap[b]? = some (joinerO most room mb (bytesO (dropO l id)))) (ho : w'.ownsMap Try.prog 3 msgE mb 1000 (D.del (.int .i64 id)))
    (hf : ∀ k, k < w.heap.size → ¬ k = b → ¬ k = mb → w'.heap[k]? = w.heap[k]?) (hs : w.heap.size ≤ w'.heap.size) : FJ w' F b mb most room (D.del (.int .i64 id)) loc (dropO l id) := by
  have hm := fun y => mem_dropO h.nodup id y
  refine ⟨hb, ho, ids_dropO h.nodup id, fun i => ?_, fun x hx z => ?_, fun x hx => ?_, fun x hx => h.frow x ((hm x).1 hx).1, fun x hx y hy => h.inj x ((hm x).1 hx).1 y ((hm y).1 hy).1, h.fb, h.fm, h.ne, fun k hk => Nat.lt_of_lt_of_le (h.few k hk) hs⟩
  · rw [mem_idsO]
    by_cases e : i = id
    · subst e
      rw [has_del_same]
      refine ⟨fun g => (by cases g), fun g => ?_⟩
      obtain ⟨x, hx, hxe⟩ := g
      exact absurd hxe ((hm x).1 hx).2
    · rw [has_del_other (by simpa using e), h.has, mem_idsO]
      constructor
      · rintro ⟨x, hx, rfl⟩; exact ⟨x, (hm x).2 ⟨hx, e⟩, rfl⟩
      · rintro ⟨x, hx, rfl⟩; exact ⟨x, ((hm x).1 hx).1, rfl⟩
  · obtain ⟨h1, h2⟩ := (hm x).1 hx
    rw [atKey_del_other (by simpa using h2)]
    exact h.val x h1 z
  · obtain ⟨h1, _⟩ := (hm x).1 hx
    have hr := h.row x h1
    exact hr.keep (hf _ hr.lt (h.frow x h1).2.1 (h.frow x h1).2.2)

/-- What is behind a store. -/
theorem FJ.put (h : FJ w F b mb most room D loc l) (x : Op) (g cap : Nat) (hb : w'.heap[b]? = some (joinerO most room mb (bytesO (putO l x)))) (ho : w'.ownsMap Try.prog 3 msgE mb 1000 (D.put (.int .i64 x.id) (msgD g x.body.size cap x.pieces)))
    (hr : RowM w' g cap x.body) (hg : (x.id ∈ idsO l ∧ g = (loc x.id).1) ∨ w.heap.size ≤ g)
    (hf : ∀ k, k < w.heap.size → ¬ k = b → ¬ k = mb → (x.id ∈ idsO l → ¬ k = (loc x.id).1) → w'.heap[k]? = w.heap[k]?) (hs : w.heap.size ≤ w'.heap.size) :
    FJ w' (fun k => F k ∨ k = g) b mb most room (D.put (.int .i64 x.id) (msgD g x.body.size cap x.pieces)) (fun i => if i = x.id then (g, cap) else loc i) (putO l x) := by
  have hm := fun y => mem_putO h.nodup x y
  have hgb : ¬ g = b ∧ ¬ g = mb := by
    rcases hg with ⟨h1, rfl⟩ | h1
    · obtain ⟨y, hy, he⟩ := mem_idsO.1 h1
      rw [← he]
      exact (h.frow y hy).2
    · have := h.few _ h.fb; have := h.few _ h.fm; omega
  have hold : ∀ y ∈ l, ¬ y.id = x.id → ¬ (loc y.id).1 = g := fun y hy hne e => by
    rcases hg with ⟨h1, h2⟩ | h1
    · obtain ⟨z, hz, he⟩ := mem_idsO.1 h1
      rw [h2, ← he] at e
      exact hne ((h.inj y hy z hz e).trans he)
    · have := h.few _ (h.frow y hy).1; omega
  refine ⟨hb, ho, ids_putO h.nodup x, fun i => ?_, fun y hy z => ?_, fun y hy => ?_, fun y hy => ?_, fun y hy z hz => ?_, .inl h.fb, .inl h.fm, h.ne, fun k hk => ?_⟩
  · rw [mem_idsO]
    by_cases e : i = x.id
    · subst e
      rw [has_put_same h.own.isMap (keyLit _)]
      exact ⟨fun _ => ⟨x, (hm x).2 (.inl rfl), rfl⟩, fun _ => rfl⟩
    · rw [has_put_other (by simpa using e), h.has, mem_idsO]
      constructor
      · rintro ⟨y, hy, rfl⟩; exact ⟨y, (hm y).2 (.inr ⟨hy, e⟩), rfl⟩
      · rintro ⟨y, hy, rfl⟩
        rcases (hm y).1 hy with rfl | ⟨h1, _⟩
        · exact absurd rfl e
        · exact ⟨y, h1, rfl⟩
  · rcases (hm y).1 hy with rfl | ⟨h1, h2⟩
    · rw [atKey_put_same h.own.isMap (keyLit _)]
      simp
    · rw [atKey_put_other (by simpa using h2)]
      simp only [if_neg h2]
      exact h.val y h1 z
  · rcases (hm y).1 hy with rfl | ⟨h1, h2⟩
    · simpa using hr
    · simp only [if_neg h2]
      have h3 := h.row y h1
      refine h3.keep (hf _ h3.lt (h.frow y h1).2.1 (h.frow y h1).2.2 fun hx e => ?_)
      obtain ⟨z, hz, he⟩ := mem_idsO.1 hx
      rw [← he] at e
      exact h2 ((h.inj y h1 z hz e).trans he)
  · rcases (hm y).1 hy with rfl | ⟨h1, h2⟩
    · simpa using hgb
    · simp only [if_neg h2]
      exact ⟨.inl (h.frow y h1).1, (h.frow y h1).2⟩
  · rcases (hm y).1 hy with rfl | ⟨h1, h2⟩
    · rcases (hm z).1 hz with rfl | ⟨h3, h4⟩
      · exact fun _ => rfl
      · simp only [if_neg h4, if_true]
        exact fun e => absurd e.symm (hold z h3 h4)
    · rcases (hm z).1 hz with rfl | ⟨h3, h4⟩
      · simp only [if_neg h2, if_true]
        exact fun e => absurd e (hold y h1 h2)
      · simp only [if_neg h2, if_neg h4]
        exact h.inj y h1 z h3
  · rcases hk with hk | rfl
    · exact Nat.lt_of_lt_of_le (h.few k hk) hs
    · exact hr.lt
end

/-- What a call of frag's joiner leaves behind. -/
def FStep (w : World) (F : Nat → Prop) (b : Nat) (most room : Int) (l : List Op) (w' : World) : Prop :=
  ∃ F' mb D loc, FJ w' F' b mb most room D loc l ∧ (∀ k, F' k → F k ∨ w.heap.size ≤ k) ∧ But F w w'

section
variable {w w' w2 : World} {F : Nat → Prop} {b mb : Nat} {most room : Int} {D : DataW Unit} {loc : Int → Nat × Nat} {l : List Op}

theorem FStep.same (h : FJ w F b mb most room D loc l) (hb : Below w.heap.size w w') : FStep w F b most room l w' :=
  ⟨F, mb, D, loc, h.below hb, fun _ g => .inl g, But.of_below hb⟩

theorem FStep.then_below (h : FStep w F b most room l w') (hb : Below w'.heap.size w' w2) : FStep w F b most room l w2 := by
  obtain ⟨F', mb, D, loc, h1, h2, h3⟩ := h
  exact ⟨F', mb, D, loc, h1.below hb, h2, h3.then_below hb⟩

theorem FStep.after (hb : Below w.heap.size w w') (h : FStep w' F b most room l w2) : FStep w F b most room l w2 := by
  obtain ⟨F', mb, D, loc, h1, h2, h3⟩ := h
  exact ⟨F', mb, D, loc, h1, fun k hk => (h2 k hk).imp id fun g => Nat.le_trans hb.size g, (But.of_below hb).trans h3 fun _ g => .inl g⟩
end

end Go.Proofs.Yteblbpdpfegooaa
