/-
  PROVED HERE: a region that draws its order and holds one operation c that writes what others read: what c waits for, itself or by others, is carried out ahead of c in each order.
-/
import Derived.Test.YteblbpdpfegooaaB
import Derived.Deep.RegionHeld
namespace Go.Proofs.Yteblbpdpfegooaa
open Go.RowKit

section
variable {P : Program} {ops : Array Oper} {Q : Exit → Act → World → Prop} {md : Region.Mode} {S : World → Prop} {c : Nat}

/-- What an operation waits for, by itself. -/
def depsOf (md : Region.Mode) (ops : Array Oper) (j : Nat) : List Nat := match ops[j]? with
  | some o => (o.after.toList.filter fun e => Region.binds md e).map fun e => e.on
  | none => []
/-- .. and by others. -/
def ancs (md : Region.Mode) (ops : Array Oper) (c : Nat) : Nat → List Nat
  | 0 => depsOf md ops c
  | n + 1 => ancs md ops c n ++ (ancs md ops c n).flatMap (depsOf md ops)

/-- What has come up, has all come up that it waits for. -/
def Whole (md : Region.Mode) (ops : Array Oper) (L : Array Bool) : Prop := ∀ j, L.getD j false = true → ∀ x ∈ depsOf md ops j, L.getD x false = true

theorem deps_of_ready {L : Array Bool} {j : Nat} (h : j ∈ Region.ready md ops L) : ∀ x ∈ depsOf md ops j, L.getD x false = true := by
  obtain ⟨_, o, ho, hall⟩ := mem_ready.1 h
  intro x hx
  unfold depsOf at hx
  simp only [ho, List.mem_map, List.mem_filter, Array.mem_toList_iff] at hx
  obtain ⟨e, ⟨he, hb⟩, rfl⟩ := hx
  exact hall e he hb

theorem Whole.start (n : Nat) : Whole md ops (Array.replicate n false) := fun j hj => by
  have : (Array.replicate n false).getD j false = false := by
    by_cases h : j < n <;> simp [h]
  rw [this] at hj; cases hj

theorem Whole.set {L : Array Bool} {j : Nat} (h : Whole md ops L) (hj : j ∈ Region.ready md ops L) : Whole md ops (L.setIfInBounds j true) := fun k hk x hx => by
  by_cases e : j = k
  · subst e; exact getD_set_true (deps_of_ready hj x hx)
  · rw [getD_set_ne false e] at hk
    exact getD_set_true (h k hk x hx)

theorem Whole.ancs {L : Array Bool} (h : Whole md ops L) (hc : ∀ x ∈ depsOf md ops c, L.getD x false = true) : ∀ n, ∀ x ∈ ancs md ops c n, L.getD x false = true
  | 0, x, hx => hc x hx
  | n + 1, x, hx => by
    rcases List.mem_append.1 hx with h1 | h1
    · exact h.ancs hc n x h1
    · obtain ⟨y, hy, hxy⟩ := List.mem_flatMap.1 h1
      exact h y (h.ancs hc n y hy) x hxy

/-- c has come up, or S holds. -/
def Upto (c : Nat) (S : World → Prop) (L : Array Bool) (w : World) : Prop := L.getD c false = true ∨ S w

/-- Whatever order is picked from here on, and S holds behind all that is carried out ahead of c. -/
def wpAnyC (P : Program) (md : Region.Mode) (ops : Array Oper) (Q : Exit → Act → World → Prop) (S : World → Prop) (c : Nat) : Nat → Array Bool → Act → World → Prop
  | 0, L, a, w => Region.ready md ops L = [] ∧ Q .normal a w
  | fuel + 1, L, a, w => (Region.ready md ops L = [] → Q .normal a w) ∧
    ∀ i ∈ Region.ready md ops L, wpOp P ops Q i (fun a' w' => Upto c S (L.setIfInBounds i true) w' ∧ wpAnyC P md ops Q S c fuel (L.setIfInBounds i true) a' w') a w

theorem wpAny_of_C : ∀ (fuel : Nat) (L : Array Bool) (a : Act) (w : World), wpAnyC P md ops Q S c fuel L a w → wpAny P md ops Q fuel L a w
  | 0, _, _, _, h => h
  | fuel + 1, _, _, _, h => ⟨h.1, fun i hi => wpOp_mono (fun a' w' h' => wpAny_of_C fuel _ a' w' h'.2) (h.2 i hi)⟩

theorem wpAnyC_first {i : Nat} {oi : Oper} {v : Value} {T : World → Prop} (hi : ops[i]? = some oi) (hsel : ∀ (j : Nat) (o : Oper) cs b, ops[j]? = some o → o.op ≠ .select cs b)
    (hQ : ∀ c a w, Q (.panic c) (a.put oi.dst v) w → Q (.panic c) a w) (hic : i ≠ c) (hT : ∀ L w, Whole md ops L → L.getD i true = false → Upto c S L w → T w) :
    ∀ (fuel : Nat) (L : Array Bool) (a : Act) (w : World), Whole md ops L →
      (∀ j oj, ops[j]? = some oj → j ≠ i → L.getD j true = false → (∀ e ∈ oj.after, Region.binds md e = true → e.on ≠ i) → oi.apart ops oj = true) →
      i ∈ Region.ready md ops L → YieldsIf P ops T oi v a → Upto c S L w →
      wpAnyC P md ops Q S c fuel (L.setIfInBounds i true) (a.put oi.dst v) w → wpAnyC P md ops Q S c (fuel + 1) L a w := by
  intro fuel
  induction fuel with
  | zero =>
    intro L a w hwh _ hr hy hU H
    have hT0 : T w := hT L w hwh (mem_ready.1 hr).1 hU
    refine ⟨fun h => (by rw [h] at hr; cases hr), fun j hj => ?_⟩
    by_cases hji : j = i
    · subst hji
      exact hy.wpOp hi hT0 ⟨hU.imp getD_set_true id, H⟩
    · have := ready_mono hj hji
      rw [H.1] at this
      cases this
  | succ fuel ih =>
    intro L a w hwh hfree hr hy hU H
    have hT0 : T w := hT L w hwh (mem_ready.1 hr).1 hU
    refine ⟨fun h => (by rw [h] at hr; cases hr), fun j hj => ?_⟩
    by_cases hji : j = i
    · subst hji
      exact hy.wpOp hi hT0 ⟨hU.imp getD_set_true id, H⟩
    · have h1 := H.2 j (ready_mono hj hji)
      obtain ⟨hjun, oj, hoj, hall⟩ := mem_ready.1 hj
      have hnot : ∀ e ∈ oj.after, Region.binds md e = true → e.on ≠ i := fun e he hb heq => by
        have h2 := hall e he hb
        have h0 := (mem_ready.1 hr).1
        rw [heq] at h2
        rcases Nat.lt_or_ge i L.size with h' | h'
        · simp [h'] at h0 h2; rw [h0] at h2; cases h2
        · simp [Array.getElem?_eq_none h'] at h2
      have h2 := wpOp_putIf hoj (hfree j oj hoj hji hjun hnot) (fun cs b => hsel i oi cs b hi) (fun cs b => hsel j oj cs b hoj) hQ hy h1
      have hfree' : ∀ k ok, ops[k]? = some ok → k ≠ i → (L.setIfInBounds j true).getD k true = false →
          (∀ e ∈ ok.after, Region.binds md e = true → e.on ≠ i) → oi.apart ops ok = true := fun k ok hk hki hun hno => by
        refine hfree k ok hk hki ?_ hno
        by_cases hjk : j = k
        · subst hjk; exact hjun
        · rw [getD_set_ne true hjk] at hun; exact hun
      refine wpOp_mono (fun a' w' h3 => ?_) h2
      have hU' : Upto c S (L.setIfInBounds j true) w' := by
        rcases h3.2.1 with h4 | h4
        · left
          rw [Array.setIfInBounds_comm _ _ (Ne.symm hji), getD_set_ne false hic] at h4
          exact h4
        · exact .inr h4
      refine ⟨hU', ih (L.setIfInBounds j true) a' w' (hwh.set hj) hfree' (ready_mono hr (Ne.symm hji)) h3.1 hU' ?_⟩
      rw [Array.setIfInBounds_comm _ _ hji]
      exact h3.2.2

/-- Take number i first, which c waits for. -/
theorem takeC {i d : Nat} (n : Nat) {oi : Oper} {v : Value} {fuel : Nat} {L : Array Bool} {t : Array Value} {df : List Deferred} {w : World} (hi : ops[i]? = some oi) (hd : oi.dst = some d)
    (hs : Region.noSelect ops = true) (hf : Region.free md ops L i = true) (hr : (Region.ready md ops L).contains i = true) (hic : i ≠ c) (ha : (ancs md ops c n).contains i = true)
    (hQ : ∀ c a w, Q (.panic c) (a.put oi.dst v) w → Q (.panic c) a w) (hw : Region.wanted oi (yielded ops t) = true) (hy : ∀ w, S w → (execOp (Act.eval ⟨t, df⟩) oi).run P w = .ok (.value v) w) (hS : S w)
    (h : Whole md ops (L.setIfInBounds i true) → wpAnyC P md ops Q S c fuel (L.setIfInBounds i true) ⟨t.setIfInBounds d v, df⟩ w) : Whole md ops L → wpAnyC P md ops Q S c (fuel + 1) L ⟨t, df⟩ w := fun hwh => by
  have hr' : i ∈ Region.ready md ops L := by simpa using hr
  refine wpAnyC_first hi (Region.noSelect_spec hs) hQ hic (T := S) (fun L' w' hwh' hun hU => ?_) fuel L ⟨t, df⟩ w hwh (Region.free_spec hi hf) hr' (Or.inl ⟨hw, hy⟩) (.inr hS) (by rw [hd]; exact h (hwh.set hr'))
  rcases hU with h1 | h1
  · have h2 := hwh'.ancs (c := c) (fun x hx => hwh' c h1 x hx) n i (by simpa using ha)
    rcases Nat.lt_or_ge i L'.size with h' | h'
    · simp [h'] at hun h2; rw [hun] at h2; cases h2
    · simp [Array.getElem?_eq_none h'] at h2
  · exact h1

/-- Take number i first, which yields in whatever world. -/
theorem takeA {i d : Nat} {oi : Oper} {v : Value} {fuel : Nat} {L : Array Bool} {t : Array Value} {df : List Deferred} {w : World} (hi : ops[i]? = some oi) (hd : oi.dst = some d)
    (hs : Region.noSelect ops = true) (hf : Region.free md ops L i = true) (hr : (Region.ready md ops L).contains i = true) (hic : i ≠ c)
    (hQ : ∀ c a w, Q (.panic c) (a.put oi.dst v) w → Q (.panic c) a w) (hw : Region.wanted oi (yielded ops t) = true) (hy : ∀ w, (execOp (Act.eval ⟨t, df⟩) oi).run P w = .ok (.value v) w) (hU : Upto c S L w)
    (h : Whole md ops (L.setIfInBounds i true) → wpAnyC P md ops Q S c fuel (L.setIfInBounds i true) ⟨t.setIfInBounds d v, df⟩ w) : Whole md ops L → wpAnyC P md ops Q S c (fuel + 1) L ⟨t, df⟩ w := fun hwh => by
  have hr' : i ∈ Region.ready md ops L := by simpa using hr
  exact wpAnyC_first hi (Region.noSelect_spec hs) hQ hic (T := fun _ => True) (fun _ _ _ _ _ => trivial) fuel L ⟨t, df⟩ w hwh (Region.free_spec hi hf) hr' (Or.inl ⟨hw, fun w _ => hy w⟩) hU (by rw [hd]; exact h (hwh.set hr'))

/-- c alone may come up. -/
theorem stepC {fuel : Nat} {L : Array Bool} {a : Act} {w : World} {o : Oper} (hr : Region.ready md ops L = [c]) (ho : ops[c]? = some o)
    (h : ∀ K' : Act → World → Prop, Shut (∀ a w, (Whole md ops (L.setIfInBounds c true) → wpAnyC P md ops Q S c fuel (L.setIfInBounds c true) a w) → K' a w) → if Region.wanted o (yielded ops a.tmps) = true then Oper.wp P o a w K' Q else K' (a.put o.dst undef) w) :
    Whole md ops L → wpAnyC P md ops Q S c (fuel + 1) L a w := fun hwh => by
  have hc : c ∈ Region.ready md ops L := by rw [hr]; simp
  have hlt : c < L.size := by
    have h0 := (mem_ready.1 hc).1
    rcases Nat.lt_or_ge c L.size with h' | h'
    · exact h'
    · simp [Array.getElem?_eq_none h'] at h0
  have hset : (L.setIfInBounds c true).getD c false = true := by simp [hlt]
  refine ⟨fun h0 => (by rw [hr] at h0; cases h0), fun j hj => ?_⟩
  rw [hr] at hj
  obtain rfl : j = c := by simpa using hj
  exact wpOp_step ho (fun K' hK => h K' (fun a w hg => hK a w ⟨.inl hset, hg (hwh.set hc)⟩))

/-- Another operation alone may come up; S is shown behind it. -/
theorem stepU {i fuel : Nat} {L : Array Bool} {a : Act} {w : World} {o : Oper} (hr : Region.ready md ops L = [i]) (ho : ops[i]? = some o)
    (h : ∀ K' : Act → World → Prop, Shut (∀ a w, S w → (Whole md ops (L.setIfInBounds i true) → wpAnyC P md ops Q S c fuel (L.setIfInBounds i true) a w) → K' a w) → if Region.wanted o (yielded ops a.tmps) = true then Oper.wp P o a w K' Q else K' (a.put o.dst undef) w) :
    Whole md ops L → wpAnyC P md ops Q S c (fuel + 1) L a w := fun hwh => by
  have hc : i ∈ Region.ready md ops L := by rw [hr]; simp
  refine ⟨fun h0 => (by rw [hr] at h0; cases h0), fun j hj => ?_⟩
  rw [hr] at hj
  obtain rfl : j = i := by simpa using hj
  exact wpOp_step ho (fun K' hK => h K' (fun a w hS hg => hK a w ⟨.inr hS, hg (hwh.set hc)⟩))

theorem doneC {L : Array Bool} {a : Act} {w : World} (hr : Region.ready md ops L = []) (h : Q .normal a w) (fuel : Nat) : Whole md ops L → wpAnyC P md ops Q S c fuel L a w := fun _ => by
  cases fuel with
  | zero => exact ⟨hr, h⟩
  | succ n => exact ⟨fun _ => h, by rw [hr]; simp⟩

/-- THE BEGINNING. -/
theorem wp_region_C {id : Nat} {a : Act} {w : World} (hm : P.follows .mixedOrders = true)
    (h : Whole .any ops (Array.replicate ops.size false) → wpAnyC P .any ops Q S c ops.size (Array.replicate ops.size false) a w.drew) : (Code.region id ops true).wp P Q a w :=
  wp_region_any hm (wpAny_of_C _ _ _ _ (h (Whole.start _)))

end

end Go.Proofs.Yteblbpdpfegooaa
