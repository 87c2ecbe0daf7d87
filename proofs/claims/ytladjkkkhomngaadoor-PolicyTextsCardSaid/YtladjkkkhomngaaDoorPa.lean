/- The words of the kinds: the table that both packages hold; the reference's words with what they say; the table as memory. -/
import Derived.Test.YtladjkkkhomngaaDoorTf
import Derived.Test.YtladjkkkhomngaaDoorShelf
import Derived.Lib.SmallJoins
namespace Go.Proofs.YtladjkkkhomngaaDoor
set_option maxRecDepth 8000
open Go.RowKit Go.Sort Go.BigFrame

/-- The words of a kind, its name first. -/
def wordsN : Nat → List ByteArray
  | 1 => [⟨#[116, 104, 114, 101, 97, 100]⟩, ⟨#[102, 114, 101, 101]⟩, ⟨#[115, 105, 110, 103, 108, 101]⟩]
  | 2 => [⟨#[108, 105, 102, 101, 115, 112, 97, 110]⟩, ⟨#[116, 114, 97, 110, 115, 105, 101, 110, 116]⟩, ⟨#[112, 101, 114, 115, 105, 115, 116, 101, 110, 116]⟩]
  | 3 => [⟨#[117, 110, 105, 113, 117, 101]⟩, ⟨#[117, 110, 105, 113, 117, 101]⟩, ⟨#[109, 117, 108, 116, 105, 112, 108, 101]⟩]
  | 4 => [⟨#[97, 115, 115, 105, 103, 110]⟩, ⟨#[115, 121, 115, 116, 101, 109]⟩, ⟨#[117, 115, 101, 114]⟩]
  | 5 => [⟨#[114, 101, 116, 97, 105, 110]⟩, ⟨#[114, 101, 116, 97, 105, 110]⟩, ⟨#[102, 111, 114, 103, 101, 116]⟩]
  | 6 => [⟨#[112, 114, 111, 99, 101, 115, 115]⟩, ⟨#[109, 97, 112]⟩, ⟨#[100, 101, 102, 97, 117, 108, 116]⟩, ⟨#[109, 97, 110, 97, 103, 101, 114]⟩]
  | 7 => [⟨#[97, 99, 116, 105, 118, 97, 116, 101]⟩, ⟨#[101, 120, 112, 108, 105, 99, 105, 116]⟩, ⟨#[105, 109, 112, 108, 105, 99, 105, 116]⟩]
  | 8 => [⟨#[114, 101, 98, 105, 110, 100]⟩, ⟨#[116, 114, 97, 110, 115, 112, 97, 114, 101, 110, 116]⟩, ⟨#[107, 101, 101, 112]⟩, ⟨#[110, 101, 118, 101, 114]⟩]
  | 9 => [⟨#[99, 101, 114, 116, 97, 105, 110, 116, 121]⟩, ⟨#[115, 101, 110, 116]⟩, ⟨#[110, 111, 110, 101]⟩, ⟨#[115, 101, 114, 118, 101, 114]⟩, ⟨#[100, 111, 110, 101]⟩]
  | 10 => [⟨#[108, 105, 109, 105, 116]⟩]
  | 11 => [⟨#[114, 111, 117, 116, 101]⟩, ⟨#[100, 105, 114, 101, 99, 116]⟩, ⟨#[102, 111, 114, 119, 97, 114, 100]⟩, ⟨#[115, 116, 111, 114, 101]⟩]
  | 12 => [⟨#[112, 114, 105, 111, 114, 105, 116, 121]⟩]
  | 13 => [⟨#[111, 114, 100, 101, 114]⟩, ⟨#[97, 110, 121]⟩, ⟨#[116, 105, 109, 101]⟩, ⟨#[112, 114, 105, 111, 114, 105, 116, 121]⟩, ⟨#[100, 101, 97, 100, 108, 105, 110, 101]⟩]
  | _ => []
def wordsL (k : Int) : List ByteArray := wordsN k.toNat
/-- A slice of strings that lies in memory. -/
def StrsAt (W : World) (b : Nat) (l : List ByteArray) : Prop := b < W.heap.size ∧ ∀ j x, l[j]? = some x → W.cell? ⟨b, j, none⟩ = some (.string x)
theorem StrsAt.below {W W' : World} {b : Nat} {l : List ByteArray} (h : StrsAt W b l) (hb : Below W.heap.size W W') : StrsAt W' b l :=
  ⟨Nat.lt_of_lt_of_le h.1 hb.size, fun j x hx => (hb.cell h.1).trans (h.2 j x hx)⟩
theorem strs_new (w : World) (t : TypeId) (l : List ByteArray) (cs : Array Value) (h : cs = (l.map Value.string).toArray) : StrsAt (w.alloc (.cells cs t)) w.heap.size l := by
  subst h
  refine ⟨by simp, fun j x hx => ?_⟩
  rw [cells_at (heap_alloc_new w _) j]
  simp [hx]

set_option maxHeartbeats 4000000 in
theorem wordsL_any (k : Int) (w : World) (hk : isK k = true) :
    Calls Tryd.prog 44 #[.int .i64 k] w fun e w' => ∃ b, e = .returned (.slice (some ⟨b, 0, none⟩) (wordsL k).length (wordsL k).length) ∧ w.heap.size ≤ b ∧ StrsAt w' b (wordsL k) ∧ Below w.heap.size w w' := by
  simp only [isK, Bool.and_eq_true, decide_eq_true_eq] at hk
  obtain ⟨h1, h2⟩ := hk
  have hh : k = 1 ∨ k = 2 ∨ k = 3 ∨ k = 4 ∨ k = 5 ∨ k = 6 ∨ k = 7 ∨ k = 8 ∨ k = 9 ∨ k = 10 ∨ k = 11 ∨ k = 12 ∨ k = 13 := by omega
  rcases hh with rfl | rfl | rfl | rfl | rfl | rfl | rfl | rfl | rfl | rfl | rfl | rfl | rfl <;>
  · clear h1 h2
    go_enter Tryd.func44, Tryd.ntmps44
    go_wp2
    go_ret
    exact ⟨_, rfl, Nat.le_refl _, strs_new w _ _ _ rfl, (Below.refl _ _).alloc (Nat.le_refl _) _⟩

/-- WHAT THE PACKAGE's TABLE SAYS: of each kind the name and the words. -/
def TextAt (W : World) : Prop := ∀ k : Nat, 1 ≤ k → k ≤ 13 → ∀ j : Nat, j < 5 → W.cell? ⟨0, k * 6 + j, none⟩ = some (.string ((wordsN k).getD j ⟨#[]⟩))
theorem TextAt.below {W W' : World} {B : Nat} (h : TextAt W) (hb : Below B W W') (hB : 0 < B) : TextAt W' := fun k h1 h2 j hj => (hb.cell hB).trans (h k h1 h2 j hj)

/-- The text of a policy. -/
def wordP (p : PolD) : ByteArray := if defV p.k = 0 then ⟨(Lib.itoa p.v).toArray⟩ else (wordsL p.k).getD p.v.toNat ⟨#[]⟩
def textP (p : PolD) : ByteArray := (wordsL p.k).getD 0 ⟨#[]⟩ ++ ⟨#[32]⟩ ++ wordP p

/-- What the package variables hold that the texts ask for. -/
structure TxtEnv (W : World) : Prop where
  sorts : SortsAt W
  text : TextAt W
  tab : Lib.TabIs Tryd.prog W "internal/strconv.uint64pow10" .u64 Lib.pow10Tab
  len : ∃ m, W.cell? ⟨1, 0, none⟩ = some (.int .i64 m)
  syn : ∃ tp p, W.cell? ⟨2, 0, none⟩ = some (.iface tp p)
  rng : ∃ tp p, W.cell? ⟨3, 0, none⟩ = some (.iface tp p)
theorem gPow : Tryd.prog.globalNamed "internal/strconv.uint64pow10" = some 4 := by kernel_rfl
theorem cell_stays {W W' : World} {p : Addr} {v : Value} (h : W.cell? p = some v) (hb : Below W.heap.size W W') : W'.cell? p = some v :=
  (hb.cell (World.block_lt_of_cell? W _ h)).trans h
theorem TxtEnv.below {W W' : World} (h : TxtEnv W) (hb : Below W.heap.size W W') : TxtEnv W' := by

  obtain ⟨m, hm⟩ := h.len
  obtain ⟨tp, p, hp⟩ := h.syn
  obtain ⟨tq, q, hq⟩ := h.rng
  exact ⟨h.sorts.below hb h.sorts.pos, h.text.below hb h.sorts.pos, Go.Joins.tab_stays gPow h.tab hb (Nat.le_refl _), ⟨m, cell_stays hm hb⟩, ⟨tp, p, cell_stays hp hb⟩, ⟨tq, q, cell_stays hq hb⟩⟩
end Go.Proofs.YtladjkkkhomngaaDoor
