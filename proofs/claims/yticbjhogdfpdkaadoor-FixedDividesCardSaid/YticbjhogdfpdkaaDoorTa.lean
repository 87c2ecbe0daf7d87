/- A range over a function whose iterator keeps a state of its own: between two rounds it turns blocks that are its own and makes new ones; the body keeps what the iterator names. -/
import Derived.RangeFuncWrites
import Derived.WalkKit
import Derived.Below
import Derived.BigQuiet
import Derived.Deep.QuietTactic
import Derived.RangeFuncNested
import Derived.RangeFuncCalls
import Derived.RangeFuncLeaves
import Derived.RangeFuncBox
namespace Go.Proofs.YticbjhogdfpdkaaDoor
open Go.RowKit

/-- What may become of memory where the blocks of a list alone are turned. -/
structure Turns (Bs : List Nat) (W W' : World) : Prop where
  os : W'.os = W.os
  tape : W'.tape = W.tape
  output : W'.output = W.output
  size : W.heap.size ≤ W'.heap.size
  block : ∀ k, k < W.heap.size → k ∉ Bs → W'.heap[k]? = W.heap[k]?

theorem Turns.refl (Bs : List Nat) (W : World) : Turns Bs W W := ⟨rfl, rfl, rfl, Nat.le_refl _, fun _ _ _ => rfl⟩

theorem Turns.trans {Bs : List Nat} {A B C : World} (h : Turns Bs A B) (k : Turns Bs B C) : Turns Bs A C :=
  ⟨k.os.trans h.os, k.tape.trans h.tape, k.output.trans h.output, Nat.le_trans h.size k.size, fun i hi hn => (k.block i (Nat.lt_of_lt_of_le hi h.size) hn).trans (h.block i hi hn)⟩

theorem Turns.more {Bs Cs : List Nat} {A B : World} (h : Turns Bs A B) (hs : ∀ b ∈ Bs, b ∈ Cs) : Turns Cs A B :=
  ⟨h.os, h.tape, h.output, h.size, fun i hi hn => h.block i hi fun hm => hn (hs i hm)⟩

theorem Turns.of_below {A B : World} (h : Below A.heap.size A B) (Bs : List Nat) : Turns Bs A B := ⟨h.os, h.tape, h.output, h.size, fun i hi _ => h.block i hi⟩

theorem Turns.alloc (Bs : List Nat) (W : World) (o : Obj) : Turns Bs W (W.alloc o) := Turns.of_below ((Below.refl _ _).alloc (Nat.le_refl _) _) Bs

theorem Turns.putObj {Bs : List Nat} {l : Nat} (h : l ∈ Bs) (W : World) (o : Obj) : Turns Bs W (W.putObj l o) :=
  ⟨rfl, rfl, rfl, by simp [World.putObj], fun k _ hn => World.putObj_heap_other (fun e => hn (e ▸ h))⟩

theorem grownBy_cell (W : World) (a : Addr) (v : Value) : W.grownBy (W.setCell a v) (some a.block) := by
  exact ⟨rfl, rfl, rfl, by simp [World.setCell], fun k _ hk => Below.heap_setCell _ _ _ k (fun e => hk (by rw [e]))⟩

theorem Turns.drewN {Bs : List Nat} {A B : World} (h : Turns Bs A B) (m : Nat) : Turns Bs A (B.drewN m) := ⟨h.os, h.tape, h.output, h.size, h.block⟩

theorem Turns.set {Bs : List Nat} {A B : World} (h : Turns Bs A B) (b i : Nat) (v : Value) (hb : b ∈ Bs ∨ A.heap.size ≤ b) : Turns Bs A (B.setCell ⟨b, i, none⟩ v) := by
  have g := grownBy_cell B ⟨b, i, none⟩ v
  refine ⟨g.os.trans h.os, g.tape.trans h.tape, g.output.trans h.output, Nat.le_trans h.size g.size, fun k hk hn => (g.block k (Nat.lt_of_lt_of_le hk h.size) (fun e => ?_)).trans (h.block k hk hn)⟩
  have e : k = b := Option.some.inj e
  rcases hb with h1 | h1
  · exact hn (e ▸ h1)
  · omega

/-- What a condition must bear. -/
def Bears {β : Type} (Bs : List Nat) (J : β → World → Prop) : Prop := ∀ s A B, J s A → Turns Bs A B → J s B

/-- Blocks that are as they were. -/
def Kept (K : Nat → Prop) (W W' : World) : Prop := ∀ k, K k → W'.heap[k]? = W.heap[k]?

theorem Kept.trans {K : Nat → Prop} {A B C : World} (h : Kept K A B) (k : Kept K B C) : Kept K A C := fun i hi => (k i hi).trans (h i hi)

/-- THE CONTRACT OF AN ITERATOR WITH A STATE: the blocks Bs are its own; each round keeps the blocks K. -/
def SeqT {α : Type} (F : Fence) (n : Nat) (P : Program) (g : Nat) (lb : Array Value) (encs : α → Array Value) (Bs : List Nat) (K : Nat → Prop) (S Sp : List α → Prop) (V : List α → α → Prop) (w : World) : Prop :=
  ∀ (l : Nat) (J Jx : List α → World → Prop) (W : World), Below w.heap.size w W → Bears Bs J → Bears Bs Jx →
    (∀ pre x W1, J pre W1 → V pre x → YieldAt F (n - 1) P l (encs x) W1 fun e W' =>
      (e = .returned (.bool true) ∧ J (pre ++ [x]) W' ∧ Kept K W1 W') ∨ (e = .returned (.bool false) ∧ Jx (pre ++ [x]) W')) →
    J [] W →
    CallsIn F n P g (#[.func (.yield l) #[] #[]] ++ lb) W fun e W' => (∃ v, e = .returned v) ∧ ((∃ xs, S xs ∧ J xs W') ∨ (∃ pre, Sp pre ∧ Jx pre W'))

/-- How a round's body is left: the loop's own two blocks are as they were. -/
def roundLeft {α : Type} (D : Nat) (K : Nat → Prop) (I : List α → World → Prop) (Ix : Code → List α → World → Prop) (xs : List α) (W : World) : Exit → Act → World → Prop
  | .normal, _, W' => (W'.heap[D]? = W.heap[D]? ∧ W'.heap[D + 1]? = W.heap[D + 1]?) ∧ Kept K W W' ∧ I xs W'
  | .ret, _, W' => (W'.heap[D]? = W.heap[D]? ∧ W'.heap[D + 1]? = W.heap[D + 1]?) ∧ Ix .ret xs W'
  | .exit id, _, W' => (W'.heap[D]? = W.heap[D]? ∧ W'.heap[D + 1]? = W.heap[D + 1]?) ∧ Ix (.exit id) xs W'
  | .goto t, _, W' => (W'.heap[D]? = W.heap[D]? ∧ W'.heap[D + 1]? = W.heap[D + 1]?) ∧ Ix (.goto t) xs W'
  | .panic _, _, _ => False
  | .outgrown, _, _ => False

section

variable {α : Type} {F : Fence} {n : Nat} {P : Program}

/-- The loop's two blocks as they lie between two rounds, or behind the last. -/
def Book (D : Nat) (r : Loop) (W : World) : Prop := W.heap[D]? = some (.deferred (some [])) ∧ W.heap[D + 1]? = some (.loop r)

theorem Book.turns {D : Nat} {r : Loop} {Bs : List Nat} {A B : World} (h : Book D r A) (ht : Turns Bs A B) (h0 : D ∉ Bs) (h1 : D + 1 ∉ Bs) : Book D r B :=
  ⟨(ht.block _ (Array.getElem?_eq_some_iff.1 h.1).1 h0).trans h.1, (ht.block _ (Array.getElem?_eq_some_iff.1 h.2).1 h1).trans h.2⟩

theorem Book.put {D : Nat} {r r' : Loop} {W : World} (h : Book D r W) : Book D r' (W.putObj (D + 1) (.loop r')) :=
  ⟨(World.putObj_heap_other (by omega)).trans h.1, World.putObj_heap_same (Array.getElem?_eq_some_iff.1 h.2).1⟩

theorem rangeT {g : Operand} {ps : Array Tmp} {assign body : Code} {Q : Exit → Act → World → Prop} {a : Act} {w : World}
    (hro : F.round = none) (h1 : 1 ≤ n) {gf : Nat} {lb : Array Value} (hg : a.eval g = .func (.func gf) #[] lb) (hFg : F.fn gf) (eg : ∀ args w, (callFunc gf args).run P w = .ok (.enter gf args) w)
    {encs : α → Array Value} {Bs : List Nat} {K : Nat → Prop} {S Sp : List α → Prop} {V : List α → α → Prop} {w0 : World} (hseq : SeqT F (n - 1) P gf lb encs Bs K S Sp V w0)
    (hBs : ∀ b ∈ Bs, b < w.heap.size) (hK : ∀ k, K k → k < w.heap.size) (hb0 : Below w0.heap.size w0 w) (hps : ∀ x, (encs x).size = ps.size)
    (I : List α → World → Prop) (Ix : Code → List α → World → Prop) (hI : Bears (w.heap.size :: (w.heap.size + 1) :: Bs) I) (hIx : ∀ c, Bears (w.heap.size :: (w.heap.size + 1) :: Bs) (Ix c)) (h0 : I [] w) (Ax : α × Act → World → Prop) (hAx : Bears (w.heap.size :: (w.heap.size + 1) :: Bs) Ax)
    (hassign : ∀ (l : Nat) (pre : List α) (x : α) (W : World) (k : Act → World → Prop), I pre W → w.heap.size + 1 < W.heap.size → V pre x →
      (∀ a' W', (W'.heap[w.heap.size]? = W.heap[w.heap.size]? ∧ W'.heap[w.heap.size + 1]? = W.heap[w.heap.size + 1]?) → Kept K W W' → I pre W' → Ax (x, a') W' → k a' W') →
      assign.wpIn (F.inRound l) (n - 1 - 1) P (Exit.then k (fun _ _ _ => False)) { tmps := (ps.zip (encs x)).foldl (fun t (p, v) => t.setIfInBounds p v) a.tmps, defers := [] } W)
    (hbody : ∀ (l : Nat) (pre : List α) (x : α) (a' : Act) (W : World), I pre W → Ax (x, a') W → w.heap.size + 1 < W.heap.size → V pre x → body.wpIn (F.inRound l) (n - 1 - 1) P (roundLeft w.heap.size K I Ix (pre ++ [x]) W) a' W)
    (hdone : ∀ (xs : List α) (W : World), S xs → I xs W → W.heap[w.heap.size]? = some (.deferred (some [])) → Q .normal { a with defers := { target := .collected w.heap.size, args := #[] } :: a.defers } W)
    (hstop : ∀ (c : Code) (pre : List α) (W : World), Sp pre → Ix c pre W → W.heap[w.heap.size]? = some (.deferred (some [])) → c.wpIn F n P Q { a with defers := { target := .collected w.heap.size, args := #[] } :: a.defers } W) :
    (Code.rangeFunc g ps assign body).wpIn F n P Q a w := by
  refine wpIn_rangeFunc fun fn hfn => ?_
  rw [hro]
  obtain ⟨D, hD⟩ : ∃ D, w.heap.size = D := ⟨_, rfl⟩
  rw [hD] at hBs hK hI hIx hAx hassign hbody hdone hstop
  have n0 : D ∉ Bs := fun h => Nat.lt_irrefl _ (hBs _ h)
  have n1 : D + 1 ∉ Bs := fun h => Nat.lt_irrefl _ (Nat.lt_of_succ_lt (hBs _ h))
  have sub : ∀ b ∈ Bs, b ∈ D :: (D + 1) :: Bs := fun b h => List.mem_cons_of_mem _ (List.mem_cons_of_mem _ h)
  have mem1 : D + 1 ∈ D :: (D + 1) :: Bs := List.mem_cons_of_mem _ (List.mem_cons_self ..)
  have kept1 : ∀ (W : World) (o : Obj), Kept K W (W.putObj (D + 1) o) := fun W o k hk => World.putObj_heap_other (by have := hK k hk; omega)
  obtain ⟨rec, hrec⟩ : ∃ rec : LoopState → Option Code → Loop, rec = fun st pe => { state := st, pending := pe, fn, tmps := a.tmps, params := ps, assign, body, defers := D } := ⟨_, rfl⟩
  have recp : ∀ st pe, (rec st pe).pending = pe := fun _ _ => by rw [hrec]
  obtain ⟨W1, hW1⟩ : ∃ W1, (w.alloc (.deferred (some []))).alloc (.loop (rec .ready none)) = W1 := ⟨_, rfl⟩
  have hbook : Book D (rec .ready none) W1 := by
    rw [← hW1, ← hD]
    refine ⟨(Below.heap_alloc _ _ _ (by simp)).trans (World.alloc_heap_new w _), ?_⟩
    have := World.alloc_heap_new (w.alloc (.deferred (some []))) (.loop (rec .ready none))
    rwa [World.size_alloc] at this
  have hI1 : I [] W1 := by
    rw [← hW1]
    exact hI _ _ _ (hI _ _ _ h0 (Turns.alloc _ _ _)) (Turns.alloc _ _ _)
  have hb1 : Below w0.heap.size w0 W1 := by
    rw [← hW1]
    exact hb0.trans ((((Below.refl _ w).alloc (Nat.le_refl _) _).alloc (by simp) _).mono hb0.size)
  refine ⟨D + 1, [{ target := .collected D, args := #[] }], W1, { target := .fn (.func gf) lb, args := #[.func (.yield (D + 1)) #[] #[]] }, W1, gf, #[.func (.yield (D + 1)) #[] #[]] ++ lb, W1, ?_, ?_, ?_, ?_, fun _ => h1, ?_⟩
  · rw [← hW1, hrec, ← hD]
    exact run_enterLoop_outer _ _ _ _ _
  · simp only [resolve, hg]
    simp [go_sem]
  · intro f' hf'
    simp [Target.leads] at hf'
    subst hf'
    exact hFg
  · simp [invoke, go_sem, eg]
  · refine (hseq (D + 1) (fun pre W => I pre W ∧ Book D (rec .ready none) W) (fun pre W => ∃ c, Ix c pre W ∧ Book D (rec .done (some c)) W) W1 hb1
      (fun s A B hs ht => ⟨hI s A B hs.1 (ht.more sub), hs.2.turns ht n0 n1⟩)
      (fun s A B hs ht => by obtain ⟨c, hc, hk⟩ := hs; exact ⟨c, hIx c s A B hc (ht.more sub), hk.turns ht n0 n1⟩) ?_ ⟨hI1, hbook⟩).mono ?_
    · rintro pre x W ⟨hi, hk⟩ hlen
      have hlt : D + 1 < W.heap.size := (Array.getElem?_eq_some_iff.1 hk.2).1
      have hy := run_yield (P := P) (args := encs x) hk.2 (by rw [hrec]; exact hps x)
      rw [hrec] at hy
      refine ⟨fn, _, assign, body, hy, roundIn_of_wpIn hfn (hassign _ pre x W _ hi hlt hlen fun a' Wa ha hka hia hax => ⟨_, run_beginRound (ha.2.trans hk.2) (by rw [hrec]), ?_⟩)⟩
      have hk0 := hk
      have hk : Book D (rec .ready none) Wa := ⟨ha.1.trans hk0.1, ha.2.trans hk0.2⟩
      have hlt : D + 1 < Wa.heap.size := (Array.getElem?_eq_some_iff.1 hk.2).1
      have hk2 := hk.put (r' := { rec .ready none with state := .busy })
      refine wpIn_mono (hbody _ pre x a' _ (hI _ _ _ hia (Turns.putObj mem1 _ _)) (hAx _ _ _ hax (Turns.putObj mem1 _ _)) (by simpa [World.putObj] using hlt) hlen) ?_
      have fin : ∀ (jump : Option Code) (W3 : World), (W3.heap[D]? = (Wa.putObj (D + 1) (.loop { rec .ready none with state := .busy })).heap[D]? ∧ W3.heap[D + 1]? = (Wa.putObj (D + 1) (.loop { rec .ready none with state := .busy })).heap[D + 1]?) →
          (Instr.endRound (D + 1) jump).run P W3 = .ok (.bool jump.isNone) (W3.putObj (D + 1) (.loop (rec (if jump.isNone then .ready else .done) jump))) ∧
          Book D (rec (if jump.isNone then .ready else .done) jump) (W3.putObj (D + 1) (.loop (rec (if jump.isNone then .ready else .done) jump))) := fun jump W3 h3 => by
        have hb3 : Book D { rec .ready none with state := .busy } W3 := ⟨h3.1.trans hk2.1, h3.2.trans hk2.2⟩
        have hr := run_endRound (P := P) jump hb3.2
        rw [hrec] at hr ⊢
        exact ⟨hr, by rw [hrec] at hb3; exact hb3.put⟩
      intro e a3 W3 hp
      cases e with
      | normal =>
        obtain ⟨h3, hkp, hi3⟩ := hp
        obtain ⟨hr, hb3⟩ := fin none W3 h3
        exact ⟨_, _, hr, .inl ⟨rfl, ⟨hI _ _ _ hi3 (Turns.putObj mem1 _ _), hb3⟩, ((hka.trans (kept1 _ _)).trans hkp).trans (kept1 _ _)⟩⟩
      | ret =>
        obtain ⟨hr, hb3⟩ := fin (some .ret) W3 hp.1
        exact ⟨_, _, hr, .inr ⟨rfl, .ret, hIx _ _ _ _ hp.2 (Turns.putObj mem1 _ _), hb3⟩⟩
      | exit id =>
        obtain ⟨hr, hb3⟩ := fin (some (.exit id)) W3 hp.1
        exact ⟨_, _, hr, .inr ⟨rfl, .exit id, hIx _ _ _ _ hp.2 (Turns.putObj mem1 _ _), hb3⟩⟩
      | goto t =>
        obtain ⟨hr, hb3⟩ := fin (some (.goto t)) W3 hp.1
        exact ⟨_, _, hr, .inr ⟨rfl, .goto t, hIx _ _ _ _ hp.2 (Turns.putObj mem1 _ _), hb3⟩⟩
      | panic ch => exact hp.elim
      | outgrown => exact hp.elim
    · rintro e W2 ⟨⟨v, rfl⟩, (⟨xs, hS, hi, hk⟩ | ⟨pre, hSp, c, hi, hk⟩)⟩
      · refine ⟨none, _, by have := run_endLoop (P := P) hk.2 (by rw [hrec]; simp); rw [recp] at this; exact this, ?_⟩
        exact hdone xs _ hS (hI _ _ _ hi (Turns.putObj mem1 _ _)) ((World.putObj_heap_other (by omega)).trans hk.1)
      · refine ⟨some c, _, by have := run_endLoop (P := P) hk.2 (by rw [hrec]; simp); rw [recp] at this; exact this, ?_⟩
        exact hstop c pre _ hSp (hIx c _ _ _ hi (Turns.putObj mem1 _ _)) ((World.putObj_heap_other (by omega)).trans hk.1)

end

end Go.Proofs.YticbjhogdfpdkaaDoor
