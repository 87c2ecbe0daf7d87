/- Both joiners in memory: what each may write. The reference's find, Bytes. -/
import Derived.Test.YteblbpdpfegooaaJa
import Derived.Test.YteblbpdpfegooaaB
import Derived.Deep.AppendLies
namespace Go.Proofs.Yteblbpdpfegooaa
open Go.RowKit Go.BigFrame

/-- w' is w but for the blocks of F, and new ones. -/
structure But (F : Nat → Prop) (w w' : World) : Prop where
  os : w'.os = w.os
  tape : w'.tape = w.tape
  output : w'.output = w.output
  size : w.heap.size ≤ w'.heap.size
  block : ∀ k, k < w.heap.size → ¬ F k → w'.heap[k]? = w.heap[k]?

theorem But.refl (F : Nat → Prop) (w : World) : But F w w := ⟨rfl, rfl, rfl, Nat.le_refl _, fun _ _ _ => rfl⟩

theorem But.trans {F F' : Nat → Prop} {a b c : World} (h : But F a b) (k : But F' b c) (hF : ∀ i, F' i → F i ∨ a.heap.size ≤ i) : But F a c :=
  ⟨k.os.trans h.os, k.tape.trans h.tape, k.output.trans h.output, Nat.le_trans h.size k.size, fun i hi hn =>
    (k.block i (Nat.lt_of_lt_of_le hi h.size) fun g => by rcases hF i g with g | g; exact hn g; omega).trans (h.block i hi hn)⟩

theorem But.of_below {F : Nat → Prop} {w w' : World} (h : Below w.heap.size w w') : But F w w' := ⟨h.os, h.tape, h.output, h.size, fun k hk _ => h.block k hk⟩

theorem But.then_below {F : Nat → Prop} {a b c : World} (h : But F a b) (k : Below b.heap.size b c) : But F a c := h.trans (But.of_below (F := fun _ => False) k) fun _ g => g.elim

theorem But.below {F : Nat → Prop} {w w' : World} (h : But F w w') {B : Nat} (hB : B ≤ w.heap.size) (hF : ∀ k, F k → B ≤ k) : Below B w w' :=
  ⟨h.os, h.tape, h.output, h.size, fun k hk => h.block k (by omega) fun g => by have := hF k g; omega⟩

theorem But.kept {F : Nat → Prop} {w w' : World} (h : But F w w') {k : Nat} {o : Obj} (hk : w.heap[k]? = some o) (hn : ¬ F k) : w'.heap[k]? = some o :=
  (h.block k (Array.getElem?_eq_some_iff.1 hk).1 hn).trans hk

theorem But.setCell {F : Nat → Prop} (w : World) (a : Addr) (v : Value) (hF : F a.block) : But F w (w.setCell a v) :=
  ⟨rfl, rfl, rfl, by simp [World.setCell], fun k _ hn => Below.heap_setCell _ _ _ _ fun e => hn (e ▸ hF)⟩

theorem But.of_grown {F : Nat → Prop} {w w' : World} {row : Option Nat} (h : w.grownBy w' row) (hF : ∀ k, row = some k → F k) : But F w w' :=
  ⟨h.os, h.tape, h.output, h.size, fun k hk hn => h.block k hk fun e => hn (hF k e.symm)⟩

/-- The cells of open messages. -/
def opCells (l : List Op) : List Value := l.flatMap fun x => [.int .i64 x.id, .int .i64 x.pieces, .string x.body]

theorem opCells_cons (x : Op) (r : List Op) : opCells (x :: r) = [.int .i64 x.id, .int .i64 x.pieces, .string x.body] ++ opCells r := by simp [opCells]

theorem opCells_snoc (l : List Op) (x : Op) : opCells (l ++ [x]) = opCells l ++ [.int .i64 x.id, .int .i64 x.pieces, .string x.body] := by simp [opCells]

theorem opCells_len (l : List Op) : (opCells l).length = l.length * 3 := by
  induction l with
  | nil => rfl
  | cons x r ih => rw [opCells_cons, List.length_append, ih, List.length_cons]; simp; omega

theorem opCells_one (l : List Op) : ∀ u ∈ opCells l, u.oneCell' = true := by
  intro u hu
  obtain ⟨p, _, hp⟩ := List.mem_flatMap.1 hu
  simp only [List.mem_cons, List.not_mem_nil, or_false] at hp
  rcases hp with rfl | rfl | rfl <;> rfl

theorem opCells_at : ∀ (l : List Op) (i : Nat) (h : i < l.length), (opCells l)[i * 3]? = some (.int .i64 l[i].id) ∧ (opCells l)[i * 3 + 1]? = some (.int .i64 l[i].pieces) ∧ (opCells l)[i * 3 + 2]? = some (.string l[i].body)
  | x :: r, 0, _ => by rw [opCells_cons]; exact ⟨rfl, rfl, rfl⟩
  | x :: r, i + 1, h => by
    have ih := opCells_at r i (by simpa using h)
    rw [opCells_cons]
    simp only [List.getElem_cons_succ]
    rw [show (i + 1) * 3 = i * 3 + 3 by omega, show i * 3 + 3 + 1 = i * 3 + 1 + 3 by omega, show i * 3 + 3 + 2 = i * 3 + 2 + 3 by omega]
    have e : ∀ j, ([Value.int .i64 x.id, .int .i64 x.pieces, .string x.body] ++ opCells r)[j + 3]? = (opCells r)[j]? := fun j => by
      rw [List.getElem?_append_right (by simp)]; simp
    rw [e, e, e]
    exact ih

/-- The reference's joiner lies in block b. -/
structure RJ (w : World) (F : Nat → Prop) (b : Nat) (most room : Int) (sv : Value) (l : List Op) : Prop where
  blk : w.heap[b]? = some (.cells #[.int .i64 most, .int .i64 room, sv] 63 (0, 0))
  row : w.ownsRow 0 72 3 sv l.length (opCells l)
  fb : F b
  frow : ∀ g, sv.ownBlock = some g → F g ∧ g ≠ b
  few : ∀ k, F k → k < w.heap.size

theorem RJ.kept {w w' : World} {F G : Nat → Prop} {b : Nat} {most room : Int} {sv : Value} {l : List Op} (h : RJ w F b most room sv l) (hb : But G w w') (hFG : ∀ k, F k → ¬ G k) : RJ w' F b most room sv l := by
  refine ⟨hb.kept h.blk (hFG _ h.fb), ?_, h.fb, h.frow, fun k hk => Nat.lt_of_lt_of_le (h.few k hk) hb.size⟩
  refine ⟨h.row.1, ?_⟩
  rcases h.row.2 with hn | ⟨g, cap, cur, hv, h0, hg, rest⟩
  · exact .inl hn
  · have hog : sv.ownBlock = some g := by rw [hv]; rfl
    exact .inr ⟨g, cap, cur, hv, h0, hb.kept hg (hFG _ (h.frow g hog).1), rest⟩

theorem RJ.below {w w' : World} {F : Nat → Prop} {b : Nat} {most room : Int} {sv : Value} {l : List Op} (h : RJ w F b most room sv l) (hb : Below w.heap.size w w') : RJ w' F b most room sv l :=
  h.kept (But.of_below (F := fun _ => False) hb) fun _ _ g => g

/-- What a slice of open messages looks like; its cells. -/
theorem RJ.form {w : World} {F : Nat → Prop} {b : Nat} {most room : Int} {sv : Value} {l : List Op} (h : RJ w F b most room sv l) :
    (∃ ao cap, sv = .slice ao l.length cap) ∧ ∀ k (hk : k < l.length), ∃ g cap, sv = .slice (some ⟨g, 0, none⟩) l.length cap ∧ g < w.heap.size ∧ w.cell? ⟨g, k * 3, none⟩ = some (.int .i64 l[k].id) ∧ w.cell? ⟨g, k * 3 + 1, none⟩ = some (.int .i64 l[k].pieces) ∧ w.cell? ⟨g, k * 3 + 2, none⟩ = some (.string l[k].body) := by
  constructor
  · rcases h.row.2 with ⟨hv, h0⟩ | ⟨g, cap, cur, hv, _⟩
    · exact ⟨none, 0, by rw [hv, h0]⟩
    · exact ⟨_, cap, hv⟩
  · intro k hk
    obtain ⟨g, cap, hv⟩ : ∃ g cap, sv = .slice (some ⟨g, 0, none⟩) l.length cap := by
      rcases h.row.2 with ⟨_, h0⟩ | ⟨g, cap, _, hv, _⟩
      · omega
      · exact ⟨g, cap, hv⟩
    have hr := h.row
    rw [hv] at hr
    refine ⟨g, cap, hv, (hr.lt g rfl).2, ?_⟩
    have hc := hr.cells (g := g) rfl
    obtain ⟨e0, e1, e2⟩ := opCells_at l k hk
    have a0 := hc _ _ e0
    have a1 := hc _ _ e1
    have a2 := hc _ _ e2
    rw [add_none] at a0 a1 a2
    exact ⟨by simpa [Nat.add_assoc] using a0, by simpa [Nat.add_assoc] using a1, by simpa [Nat.add_assoc] using a2⟩

theorem findO_none {l : List Op} {id : Int} (h : notTo l id l.length) : findO l id = -1 := by unfold findO; rw [idxO_none h]
theorem findO_some {l : List Op} {id : Int} {k : Nat} (hk : k < l.length) (h : notTo l id k) (hv : l[k].id = id) : findO l id = k := by unfold findO; rw [idxO_some hk h hv]

set_option maxRecDepth 100000 in
set_option maxHeartbeats 1000000 in
theorem rfind_any (b : Nat) (most room : Int) (sv : Value) (l : List Op) (id : Int) (F : Nat → Prop) (w : World) (h : RJ w F b most room sv l) (hl : l.length ≤ 100) :
    Calls Try.prog 30 #[.pointer (some ⟨b, 0, none⟩), .int .i64 id] w fun e w' => e = .returned (.int .i64 (findO l id)) ∧ Below w.heap.size w w' := by
  obtain ⟨⟨ao, cap, rfl⟩, hcells⟩ := h.form
  have HR := Lib.hid hcells
  have c2 : w.cell? ⟨b, 2, none⟩ = some (.slice ao l.length cap) := cells_at h.blk 2
  clear h hcells
  go_enter Try.func30, Try.ntmps30
  go_wp2_with fail
  go_loopw [12] (fun i wr => ∃ k : Nat, i = .int .i64 k ∧ k ≤ l.length ∧ notTo l id k ∧ Below w.heap.size w wr) (fun i _ => l.length - (intOf i).toNat)
  case atStart => exact ⟨0, rfl, Nat.zero_le _, fun i h => absurd h (Nat.not_lt_zero i), Below.refl _ _⟩
  case round =>
    obtain ⟨k, rfl, hk, hok, hbel⟩ := hrel
    have HB := Lib.hid hbel
    have HK := Lib.hid hok
    clear hbel hok c2
    by_cases hlt : k < l.length
    · obtain ⟨g, cap', hv, hg, c0, c1, c2⟩ := HR.out k hlt
      simp only [Value.slice.injEq] at hv
      obtain ⟨rfl, _, rfl⟩ := hv
      have d0 := (HB.out.cell (p := ⟨g, k * 3, none⟩) hg).trans c0
      have d1 := (HB.out.cell (p := ⟨g, k * 3 + 1, none⟩) hg).trans c1
      have d2 := (HB.out.cell (p := ⟨g, k * 3 + 2, none⟩) hg).trans c2
      clear c0 c1 c2
      obtain ⟨x, hx⟩ : ∃ x, l[k] = x := ⟨_, rfl⟩
      rw [hx] at d0 d1 d2
      obtain ⟨i, pc, bd⟩ := x
      simp only at d0 d1 d2
      have HX := Lib.hid hx
      have HLT := Lib.hid hlt
      have hk1 : (k : Int) < (l.length : Int) := by omega
      have hk2 : (k : Int) + 1 ≤ 1000 := by omega
      have hk0 : (0 : Int) ≤ (k : Int) := by omega
      have HA : ∀ cs, Hid (Below wr.heap.size wr (wr.alloc cs)) := fun cs => Lib.hid ((Below.refl _ _).alloc (Nat.le_refl _) _)
      clear hx hg
      by_cases he : i = id
      · have HE := Lib.hid he
        have he2 : decide (i = id) = true := decide_eq_true he
        go_wp2_with fail
        go_ret
        exact ⟨ret_int (findO_some HLT.out HK.out (by rw [HX.out]; exact HE.out)).symm, HB.out.trans ((HA _).out.mono HB.out.size)⟩
      · have HE := Lib.hid he
        have he2 : decide (i = id) = false := decide_eq_false he
        go_wp2_with fail
        exact ⟨⟨k + 1, by go_num, HLT.out, HK.out.snoc fun _ => by rw [HX.out]; exact HE.out, HB.out.trans ((HA _).out.mono HB.out.size)⟩, by simp [intOf]; have := HLT.out; omega⟩
    · obtain rfl : k = l.length := by omega
      have HF : Hid (findO l id = -1) := Lib.hid (findO_none HK.out)
      go_wp2_with fail
      go_ret
      exact ⟨ret_int HF.out.symm, HB.out⟩

set_option maxRecDepth 100000 in
set_option maxHeartbeats 1000000 in
theorem rbytes_any (b : Nat) (most room : Int) (sv : Value) (l : List Op) (F : Nat → Prop) (w : World) (h : RJ w F b most room sv l) (hl : l.length ≤ 100) (hx : ∀ x ∈ l, x.body.size ≤ 65536) :
    Calls Try.prog 22 #[.pointer (some ⟨b, 0, none⟩)] w fun e w' => e = .returned (.int .i64 (bytesO l)) ∧ Below w.heap.size w w' := by
  obtain ⟨⟨ao, cap, rfl⟩, hcells⟩ := h.form
  have HR := Lib.hid hcells
  have HX := Lib.hid hx
  have c2 : w.cell? ⟨b, 2, none⟩ = some (.slice ao l.length cap) := cells_at h.blk 2
  clear h hcells hx
  go_enter Try.func22, Try.ntmps22
  go_wp2_with fail
  go_loopw [3, 11] (fun n i wr => ∃ k : Nat, i = .int .i64 k ∧ k ≤ l.length ∧ n = .int .i64 (bytesO (l.take k)) ∧ Below w.heap.size w wr) (fun _ i _ => l.length - (intOf i).toNat)
  case atStart => exact ⟨0, rfl, Nat.zero_le _, rfl, Below.refl _ _⟩
  case round =>
    obtain ⟨k, rfl, hk, rfl, hbel⟩ := hrel
    have HB := Lib.hid hbel
    clear hbel c2
    by_cases hlt : k < l.length
    · obtain ⟨g, cap', hv, hg, c0, c1, c2⟩ := HR.out k hlt
      simp only [Value.slice.injEq] at hv
      obtain ⟨rfl, _, rfl⟩ := hv
      have d0 := (HB.out.cell (p := ⟨g, k * 3, none⟩) hg).trans c0
      have d1 := (HB.out.cell (p := ⟨g, k * 3 + 1, none⟩) hg).trans c1
      have d2 := (HB.out.cell (p := ⟨g, k * 3 + 2, none⟩) hg).trans c2
      clear c0 c1 c2
      have htk := bytesO_take hlt
      have hle := bytesO_le (l := l.take k) fun y hy => HX.out y (List.mem_of_mem_take hy)
      have hsx := HX.out l[k] (List.getElem_mem hlt)
      rw [List.length_take] at hle
      obtain ⟨x, hx⟩ : ∃ x, l[k] = x := ⟨_, rfl⟩
      rw [hx] at d0 d1 d2 htk hsx
      obtain ⟨i, pc, bd⟩ := x
      simp only at d0 d1 d2 htk hsx
      have HLT := Lib.hid hlt
      have hk1 : (k : Int) < (l.length : Int) := by omega
      have hk2 : (k : Int) + 1 ≤ 1000 := by omega
      have hk0 : (0 : Int) ≤ (k : Int) := by omega
      have HA : ∀ cs, Hid (Below wr.heap.size wr (wr.alloc cs)) := fun cs => Lib.hid ((Below.refl _ _).alloc (Nat.le_refl _) _)
      obtain ⟨s, hs⟩ : ∃ s, bytesO (l.take k) = s := ⟨_, rfl⟩
      rw [hs] at htk hle ⊢
      have hs1 : (s : Int) + (bd.size : Int) ≤ 100000000 := by omega
      have HT := Lib.hid htk
      clear hx hg htk hle hs
      go_wp2_with fail
      exact ⟨⟨k + 1, by go_num, HLT.out, by rw [HT.out]; simp, HB.out.trans ((HA _).out.mono HB.out.size)⟩, by simp [intOf]; have := HLT.out; omega⟩
    · obtain rfl : k = l.length := by omega
      rw [List.take_length]
      go_wp2_with fail
      go_ret
      exact ⟨rfl, HB.out⟩

end Go.Proofs.Yteblbpdpfegooaa
