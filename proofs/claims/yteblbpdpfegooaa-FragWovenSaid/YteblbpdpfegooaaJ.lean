/- Lists of pieces in memory; the contracts of slices.Clone and slices.DeleteFunc at them. -/
import Derived.Test.YteblbpdpfegooaaI
import Derived.Test.YteblbpdpfegooaaG
import Derived.Test.YteblbpdpfegooaaDel
import Derived.Lib.SliceRun
namespace Go.Proofs.Yteblbpdpfegooaa
open Go.RowKit Go.Sort Go.Shelf

instance : Inhabited SlD := ⟨⟨none, [], 0⟩⟩

/-- A slice of pieces that lie in a block below a bound. -/
def OkLt (n0 : Nat) (W : World) (d : SlD) : Prop := d.l.length ≤ d.c ∧ (d.l = [] ∨ ∃ b off, d.a = some ⟨b, off, none⟩ ∧ b < n0 ∧ PcsAt W b off d.l) ∧ (d.a = none → d.l = [] ∧ d.c = 0)

theorem OkLt.row {n0 : Nat} {W W' : World} {d : SlD} (h : OkLt n0 W d) (hb : Below n0 W W') (hn : n0 ≤ W'.heap.size) : RowAt W' d.a d.l := by
  rcases h.2.1 with h0 | ⟨b, off, h1, h2, h3⟩
  · exact .inl h0
  · exact .inr ⟨b, off, h1, by omega, h3.below hb h2⟩

theorem SlD.Ok.lt {W : World} {d : SlD} (h : d.Ok W) : OkLt W.heap.size W d := ⟨h.len, h.row, h.bare⟩

/-- A slice of slices of pieces. -/
structure LlAt (W : World) (ao : Option Addr) (ds : List SlD) (cap : Nat) : Prop where
  len : ds.length ≤ cap
  row : ds = [] ∨ ∃ b off, ao = some ⟨b, off, none⟩ ∧ b < W.heap.size ∧ ∀ i (h : i < ds.length), W.cell? ⟨b, off + i, none⟩ = some ds[i].v
  ok : ∀ d ∈ ds, OkLt W.heap.size W d

theorem LlAt.below {W W' : World} {ao : Option Addr} {ds : List SlD} {cap : Nat} (h : LlAt W ao ds cap) (hb : Below W.heap.size W W') : LlAt W' ao ds cap := by
  refine ⟨h.len, ?_, fun d hd => ?_⟩
  · rcases h.row with h0 | ⟨b, off, h1, h2, h3⟩
    · exact .inl h0
    · exact .inr ⟨b, off, h1, Nat.lt_of_lt_of_le h2 hb.size, fun i hi => (hb.cell h2).trans (h3 i hi)⟩
  · obtain ⟨g1, g2, g3⟩ := h.ok d hd
    refine ⟨g1, ?_, g3⟩
    rcases g2 with h0 | ⟨b, off, h1, h2, h3⟩
    · exact .inl h0
    · exact .inr ⟨b, off, h1, Nat.lt_of_lt_of_le h2 hb.size, h3.below hb h2⟩

theorem infoSl : (Try.prog.info? 23).map (fun i => (i.zero, i.size, i.bytes)) = some (some (.slice none 0 0), 1, 24) := by kernel_rfl

theorem under39 : Try.prog.underlying 52 = some (.slice 23) := by kernel_rfl

def slCells (ds : List SlD) : List Value := ds.map SlD.v

theorem holds_of {W : World} {g : Nat} {cs : Array Value} {ds : List SlD} (hg : W.heap[g]? = some (.cells cs 23 (0, 0))) (ht : cs.toList.take ds.length = slCells ds) : Holds SlD.v W g 0 ds.toArray := by
  intro j hj
  have hj' : j < ds.length := by simpa using hj
  constructor
  · rw [Nat.zero_add, cells_at hg j]
    have e : (slCells ds)[j]? = some ds[j].v := by unfold slCells; rw [List.getElem?_map, List.getElem?_eq_getElem hj']; rfl
    rw [← ht, List.getElem?_take_of_lt hj', Array.getElem?_toList] at e
    rw [e, getElem!_pos ds.toArray j hj]
    simp
  · simp [World.frozen?, hg]

set_option maxRecDepth 100000 in
set_option maxHeartbeats 1000000 in
theorem clone_any (ad : Addr) (ds : List SlD) (cap : Nat) (w : World) (h : LlAt w (some ad) ds cap) (hl : ds.length ≤ 1000) :
    Calls Try.prog 44 #[.slice (some ad) ds.length cap] w fun e w' => ∃ g cap', e = .returned (.slice (some ⟨g, 0, none⟩) ds.length cap') ∧ ds.length ≤ cap' ∧ w.heap.size ≤ g ∧ g < w'.heap.size ∧ Holds SlD.v w' g 0 ds.toArray ∧ Below w.heap.size w w' := by
  have HR := Lib.hid h
  have HL := Lib.hid hl
  have he : ∀ w : World, (binOp .eql 52 (.slice (some ad) ds.length cap) (.slice none 0 0)).run Try.prog w = .ok (.bool false) w := fun _ => rfl
  obtain ⟨i0, hi, hz0, hz1, hz2⟩ := info_parts infoSl
  have hsl : (slCells ds).length = ds.length * 1 := by simp [slCells]
  have hone : ∀ u ∈ slCells ds, u.oneCell' = true := by
    intro u hu
    obtain ⟨d, _, rfl⟩ := List.mem_map.1 hu
    rfl
  have HSL := Lib.hid hsl
  have HON := Lib.hid hone
  clear h hl hsl hone
  go_enter Try.func44, Try.ntmps44
  go_wp2_with (at_builtin; refine wpList_append_own_at _ rfl _ _ 52 rfl w.heap.size 23 i0 (.slice none 0 0) 1 24 under39 hi hz0 hz1 hz2 rfl (by decide) (.slice (some ⟨w.heap.size, 0, none⟩) 0 0) 0 [] rfl ⟨rfl, .inr ⟨w.heap.size, 0, #[], rfl, Nat.le_refl _, heap_alloc_new _ _, Nat.le_refl _, Nat.zero_le _, rfl, rfl⟩⟩ ad ds.length cap (slCells ds) rfl HSL.out ?hc HON.out (by have := HL.out; unfold maxLen; omega) (by have := HL.out; omega) (by simp) ?_)
  case hc =>
    have hok := HR.out.below (((Below.refl _ _).alloc (Nat.le_refl _) (Obj.cells #[] 23 (0, 0))) : Below w.heap.size w (w.alloc (Obj.cells #[] 23 (0, 0))))
    rcases hok.row with h0 | ⟨b, off, h1, _, hp⟩
    · subst h0
      intro j u hu
      simp [slCells] at hu
    · simp only [Option.some.injEq] at h1
      subst h1
      intro j u hu
      have hj : j < ds.length := by
        have := (List.getElem?_eq_some_iff.1 hu).1
        simpa [slCells] using this
      rw [add_none]
      have e : (slCells ds)[j]? = some ds[j].v := by unfold slCells; rw [List.getElem?_map, List.getElem?_eq_getElem hj]; rfl
      rw [e] at hu
      rw [hp j hj, Option.some.inj hu]
  intro v3 w3 hown3 hgrow3 hnil3 _
  have hn3 : v3 ≠ .slice none 0 0 := fun e => by first | exact hnil3 e | exact absurd (hnil3.1 e).1 (by simp)
  have hx : ∃ g cap' cur, v3 = .slice (some ⟨g, 0, none⟩) ds.length cap' ∧ ds.length ≤ cap' ∧ w.heap.size ≤ g ∧ w3.heap[g]? = some (.cells cur 23 (0, 0)) ∧ cur.toList.take ds.length = slCells ds := by
    rcases hown3.2 with ⟨e, _⟩ | ⟨g, cap', cur, e1, e2, e3, e4, e5, e6, e7⟩
    · exact absurd e hn3
    · refine ⟨g, cap', cur, by rw [e1]; try simp, by omega, e2, e3, ?_⟩
      simpa using e7
  obtain ⟨g, cap', cur, rfl, h1, h2, h3, h4⟩ := hx
  have G3 := Lib.hid hgrow3
  have H1 := Lib.hid h1
  have H2 := Lib.hid h2
  have HG := Lib.hid (holds_of h3 h4)
  have HLT := Lib.hid (Array.getElem?_eq_some_iff.1 h3).1
  clear hown3 hgrow3 hnil3 hn3 h1 h2 h3 h4
  go_wp2_with fail
  go_ret
  refine ⟨g, cap', rfl, H1.out, H2.out, HLT.out, HG.out, ?_⟩
  have hb : Below w.heap.size w (w.alloc (Obj.cells #[] 23 (0, 0))) := (Below.refl _ _).alloc (Nat.le_refl _) _
  exact ⟨G3.out.os.trans hb.os, G3.out.tape.trans hb.tape, G3.out.output.trans hb.output, Nat.le_trans hb.size G3.out.size, fun j hj => (G3.out.block j (Nat.lt_of_lt_of_le hj hb.size) (by simp [Value.ownBlock]; omega)).trans (hb.block j hj)⟩

/-- Is a list empty? -/
def isE (d : SlD) : Bool := d.l.isEmpty

theorem empty_any (d : SlD) (w : World) : Calls Try.prog 47 #[d.v] w fun e w' => e = .returned (.bool (isE d)) ∧ w = w' := by
  obtain ⟨a, l, c⟩ := d
  unfold SlD.v isE
  simp only
  cases l with
  | nil =>
    go_enter Try.func47, Try.ntmps47
    go_wp2
    go_ret
    exact ⟨rfl, rfl⟩
  | cons p r =>
    have e1 : (((p :: r).length : Int) == 0) = false := by simp; omega
    rw [show (p :: r).isEmpty = false from rfl]
    obtain ⟨n, hn⟩ : ∃ n, (p :: r).length = n := ⟨_, rfl⟩
    rw [hn] at e1 ⊢
    clear hn
    go_enter Try.func47, Try.ntmps47
    go_wp2
    go_ret
    exact ⟨rfl, rfl⟩

theorem empty_gives (d : SlD) (w : World) : FnGives Try.prog 47 #[] #[d.v] (.bool (isE d)) w :=
  (empty_any d w).mono fun _ _ ⟨he, hw⟩ => ⟨he, 0, hw.symm⟩

/-- The lists that have some left. -/
def neD (ds : List SlD) : List SlD := ds.filter fun d => !isE d

theorem neD_map (ds : List SlD) : (neD ds).map SlD.l = ne (ds.map SlD.l) := by
  unfold neD ne isE
  induction ds with
  | nil => rfl
  | cons d r ih =>
    simp only [List.map_cons, List.filter_cons]
    cases hd : d.l.isEmpty <;> simp [ih]

theorem putRow_block (w : World) (q g : Nat) (d : Array SlD) (k : Nat) (h : k ≠ g) : (putRow SlD.v (Sort.ahead w q) g 0 d).heap[k]? = w.heap[k]? := by
  simp only [putRow, mapBlock, Sort.ahead, Array.getElem?_modify]
  rw [if_neg (fun e => h e.symm)]

theorem putRow_cells (w : World) (q g : Nat) (d : Array SlD) : (putRow SlD.v (Sort.ahead w q) g 0 d).heap.size = w.heap.size := by simp [putRow, mapBlock, Sort.ahead]

/-- WHAT DeleteFunc LEAVES. -/
structure DelI (w : World) (g : Nat) (ds : List SlD) (w' : World) : Prop where
  row : Holds SlD.v w' g 0 (neD ds).toArray
  os : w'.os = w.os
  tape : w'.tape = w.tape
  output : w'.output = w.output
  size : w'.heap.size = w.heap.size
  block : ∀ k, k ≠ g → w'.heap[k]? = w.heap[k]?

theorem del_any (g cap : Nat) (ds : List SlD) (w : World) (hH : Holds SlD.v w g 0 ds.toArray) (hn : ds.length ≤ 1000) (hc : ds.length ≤ cap) :
    Calls Try.prog 46 #[.slice (some ⟨g, 0, none⟩) ds.length cap, .func (.func 47) #[] #[]] w fun e w' => e = .returned (.slice (some ⟨g, 0, none⟩) (neD ds).length cap) ∧ DelI w g ds w' := by
  have eg : ∀ args w, (callFunc 47 args).run Try.prog w = .ok (.enter 47 args) w := enters_of Try.func47 (by kernel_rfl) rfl
  have hcon := AnyE.slices_DeleteFunc Try.delL SlD.v (fun _ => rfl) isE 47 #[] eg (⟨none, [], 0⟩ : SlD) Try.zeroValue23 g 0 cap ds.toArray w
    (fun W x _ => empty_gives x W) (fun n os dk x _ => empty_gives x _) hH (by simp; omega) (by simpa using hc)
  change Calls Try.prog 46 _ _ _ at hcon
  have hfl : (ds.toArray.toList.filter fun x => !isE x) = neD ds := by unfold neD; simp
  have hle : (neD ds).length ≤ ds.length := List.length_filter_le _ _
  rw [hfl] at hcon
  simp only [List.size_toArray] at hcon
  refine hcon.mono fun e w' ⟨he, q, hw⟩ => ⟨he, ?_⟩
  subst hw
  have hall := holds_putRow SlD.v (Sort.ahead w q) g 0 ds.toArray ((neD ds ++ List.replicate (ds.length - (neD ds).length) (⟨none, [], 0⟩ : SlD)).toArray) hH (by simp; omega)
  refine ⟨fun j hj => ?_, rfl, rfl, rfl, putRow_cells w q g _, fun k hk => putRow_block w q g _ k hk⟩
  have hj' : j < (neD ds).length := by simpa using hj
  have := hall j (by simp; omega)
  rw [getElem!_pos _ j (by simp; omega)] at this
  rw [getElem!_pos _ j hj]
  simp only [List.getElem_toArray] at this ⊢
  rw [List.getElem_append_left hj'] at this
  exact this

end Go.Proofs.Yteblbpdpfegooaa
