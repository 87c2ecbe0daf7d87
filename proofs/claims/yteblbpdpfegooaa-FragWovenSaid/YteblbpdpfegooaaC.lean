/- A body in pieces: what is cut, by whatever sizes; what gives the sizes. -/
import Derived.Test.YteblbpdpfegooaaTa
import Derived.Test.YteblbpdpfegooaaB
namespace Go.Proofs.Yteblbpdpfegooaa
open Go.RowKit Go.BigFrame

theorem size_drop (b : ByteArray) (n : Nat) : (b.extract n b.size).size = b.size - n := by
  rw [ByteArray.size_extract]; omega

theorem size_take (b : ByteArray) (n : Nat) (h : n ≤ b.size) : (b.extract 0 n).size = n := by
  rw [ByteArray.size_extract]; omega

/-- The pieces of a body, from the k-th on: the sizes are told one by one. -/
def cutP (id : Int) (g : Nat → Option Nat) (k : Nat) (b : ByteArray) : List Pc :=
  match g k with
  | none => [⟨id, k, false, b⟩]
  | some n => if h : 0 < n ∧ n < b.size then ⟨id, k, true, b.extract 0 n⟩ :: cutP id g (k + 1) (b.extract n b.size) else [⟨id, k, false, b⟩]
termination_by b.size
decreasing_by rw [size_drop]; omega

theorem cut_more {id : Int} {g : Nat → Option Nat} {k n : Nat} {b : ByteArray} (h : g k = some n) (h0 : 0 < n) (h1 : n < b.size) : cutP id g k b = ⟨id, k, true, b.extract 0 n⟩ :: cutP id g (k + 1) (b.extract n b.size) := by
  rw [cutP, h]
  simp only
  rw [dif_pos ⟨h0, h1⟩]

theorem cut_last {id : Int} {g : Nat → Option Nat} {k n : Nat} {b : ByteArray} (h : g k = some n) (h1 : b.size ≤ n) : cutP id g k b = [⟨id, k, false, b⟩] := by
  rw [cutP, h]
  simp only
  rw [dif_neg (by omega)]

theorem cut_none {id : Int} {g : Nat → Option Nat} {k : Nat} {b : ByteArray} (h : g k = none) : cutP id g k b = [⟨id, k, false, b⟩] := by
  rw [cutP, h]

theorem cut_len (id : Int) (g : Nat → Option Nat) : ∀ (n k : Nat) (b : ByteArray), b.size ≤ n → (cutP id g k b).length ≤ b.size + 1
  | 0, k, b, h => by
    rw [cutP]
    split
    · simp
    · rw [dif_neg (by omega)]; simp
  | n + 1, k, b, h => by
    rw [cutP]
    split
    · simp
    · rename_i m _
      split
      · rename_i h2
        have := cut_len id g n (k + 1) (b.extract m b.size) (by rw [size_drop]; omega)
        rw [size_drop] at this
        simp only [List.length_cons]
        omega
      · simp

theorem Boxed.cell_other {W : World} {B : Nat} {t : TypeId} {v : Value} (h : Boxed W B t v) (b i : Nat) (u : Value) (hne : B ≠ b) : Boxed (W.setCell ⟨b, i, none⟩ u) B t v := h.kept (grownBy_cell W ⟨b, i, none⟩ u) (fun e => hne (Option.some.inj e))

theorem Boxed.turns {W W' : World} {B : Nat} {t : TypeId} {v : Value} {Bs : List Nat} (h : Boxed W B t v) (ht : Turns Bs W W') (hn : B ∉ Bs) : Boxed W' B t v := (ht.block B h.lt hn).trans h

/-- Numbers lie at a place. -/
def IntsAt (W : World) (b off : Nat) (l : List Int) : Prop := ∀ i (h : i < l.length), W.cell? ⟨b, off + i, none⟩ = some (.int .i64 l[i])

def IntRow (W : World) (ao : Option Addr) (l : List Int) : Prop := l = [] ∨ ∃ b off, ao = some ⟨b, off, none⟩ ∧ b < W.heap.size ∧ IntsAt W b off l

theorem IntsAt.below {W W' : World} {B b off : Nat} {l : List Int} (h : IntsAt W b off l) (hb : Below B W W') (hB : b < B) : IntsAt W' b off l := fun i hi => (hb.cell hB).trans (h i hi)

theorem IntRow.below {W W' : World} {ao : Option Addr} {l : List Int} (h : IntRow W ao l) (hb : Below W.heap.size W W') : IntRow W' ao l := by
  rcases h with h | ⟨b, off, h0, h1, h2⟩
  · exact .inl h
  · exact .inr ⟨b, off, h0, Nat.lt_of_lt_of_le h1 hb.size, h2.below hb h1⟩

/-- The size that Cut's closure tells. -/
theorem cutNext_any (Bn : Nat) (n : Int) (w : World) (h : Boxed w Bn 3 (.int .i64 n)) :
    Calls Try.prog 40 #[.pointer (some ⟨Bn, 0, none⟩)] w fun e w' => e = .returned (.tuple #[.int .i64 n, .bool true]) ∧ w = w' := by
  have c0 := h.cell
  clear h
  go_enter Try.func40, Try.ntmps40
  go_wp2
  go_ret2
  exact ⟨rfl, rfl⟩

end Go.Proofs.Yteblbpdpfegooaa
