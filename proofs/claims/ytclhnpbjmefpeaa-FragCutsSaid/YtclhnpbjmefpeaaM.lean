/- The reference's Weave: what it holds between two rounds; what it gathers first. -/
import Derived.Test.YtclhnpbjmefpeaaL
import Derived.Deep.RegionLaw
import Derived.Deep.AppendLies
import Derived.Laws.NewBlocks
import Derived.Deep.OwnRows
namespace Go.Proofs.Ytclhnpbjmefpeaa
open Go.RowKit Go.BigFrame

theorem pc_row {W : World} {b off : Nat} {l : List Pc} (h : PcsAt W b off l) : ∀ (j : Nat) (u : Value), (pcCells l)[j]? = some u → W.cell? ((⟨b, off, none⟩ : Addr).add j) = some u := by
  intro j u hu
  rw [add_none]
  have hj : j < l.length * 4 := by rw [← pcCells_len]; exact (List.getElem?_eq_some_iff.1 hu).1
  obtain ⟨c0, c1, c2, c3⟩ := h (j / 4) (by omega)
  obtain ⟨e0, e1, e2, e3⟩ := pcCells_at l (j / 4) (by omega)
  have hh : j % 4 = 0 ∨ j % 4 = 1 ∨ j % 4 = 2 ∨ j % 4 = 3 := by omega
  rcases hh with hp | hp | hp | hp
  · rw [show j / 4 * 4 = j by omega] at e0
    rw [show off + j / 4 * 4 = off + j by omega] at c0
    rw [e0] at hu
    rw [c0, Option.some.inj hu]
  · rw [show j / 4 * 4 + 1 = j by omega] at e1
    rw [show off + j / 4 * 4 + 1 = off + j by omega] at c1
    rw [e1] at hu
    rw [c1, Option.some.inj hu]
  · rw [show j / 4 * 4 + 2 = j by omega] at e2
    rw [show off + j / 4 * 4 + 2 = off + j by omega] at c2
    rw [e2] at hu
    rw [c2, Option.some.inj hu]
  · rw [show j / 4 * 4 + 3 = j by omega] at e3
    rw [show off + j / 4 * 4 + 3 = off + j by omega] at c3
    rw [e3] at hu
    rw [c3, Option.some.inj hu]
/-- A row of one's own, and a slice of pieces behind it: nil or not. -/
theorem append_row {w : World} {ops : Array Oper} {rest : List Oper} {o : Oper} {a : Act} {Q : Exit → Act → World → Prop} (hgd : o.guard = none) (s x : Operand)
    (ho : o.op = .call { callee := .builtin .append, args := #[s, x], argTypes := #[24, 24] }) (base : Nat) (v : Value) (l : List Pc) (hs : a.eval s = v) (hown : w.ownsRow base 36 4 v l.length (pcCells l)) (d : SlD) (hd : OkLt w.heap.size w d) (hx : a.eval x = d.v)
    (hl : l.length ≤ 1000000) (hm : d.l.length ≤ 1000000) (hb : base ≤ w.heap.size)
    (h : ∀ v' w', w'.ownsRow base 36 4 v' (l ++ d.l).length (pcCells (l ++ d.l)) → w.grownBy w' v.ownBlock → wpList Try.prog ops Q rest (a.put o.dst v') w') : wpList Try.prog ops Q (o :: rest) a w := by
  obtain ⟨i0, hi, hz0, hz1, hz2⟩ := info_parts infoPc
  obtain ⟨da, dl, dc⟩ := d
  cases da with
  | none =>
    obtain ⟨e1, e2⟩ := hd.2.2 rfl
    simp only at e1 e2
    subst e1 e2
    exact wpList_append_own_none hgd s x 24 ho base 36 i0 4 under24 hi v l.length (pcCells l) hs hown hx (h v w (by simpa using hown) (World.grownBy.refl w _))
  | some ad =>
    refine wpList_append_own_at w hgd s x 24 ho base 36 i0 (.agg #[.int .i64 0, .int .i64 0, .bool false, .string ⟨#[]⟩]) 4 40 under24 hi hz0 hz1 hz2 rfl (by decide) v l.length (pcCells l) hs hown ad dl.length dc (pcCells dl) hx (pcCells_len dl) ?_ (pcCells_one dl) (by simp only at hm; unfold maxLen; omega) (by simp only at hm; omega) hb ?_
    · rcases hd.2.1 with h0 | ⟨b, off, h1, _, hp⟩
      · simp only at h0
        subst h0
        intro j u hu
        simp [pcCells] at hu
      · simp only [Option.some.injEq] at h1
        subst h1
        exact pc_row hp
    · intro v' w' h1 h2 _ _
      exact h v' w' (by rw [List.length_append, pcCells_append]; exact h1) h2

/-- The first k lists, one behind the other. -/
def flat (S : List (List Pc)) : List Pc := S.flatten
theorem flat_len : ∀ S, (flat S).length = total S
  | [] => rfl
  | x :: r => by have := flat_len r; unfold flat at this ⊢; rw [List.flatten_cons, List.length_append, this]; rfl
theorem flat_take (S : List (List Pc)) (k : Nat) (h : k < S.length) : flat (S.take (k + 1)) = flat (S.take k) ++ S[k] := by
  unfold flat
  rw [List.take_succ_eq_append_getElem h, List.flatten_append]
  simp
theorem flat_ok (S : List (List Pc)) : okL (flat S) = goodL S := by
  unfold okL goodL
  rw [flat_len]
  congr 1
  unfold allV flat
  rw [List.all_flatten]
theorem total_bound {S : List (List Pc)} {n : Nat} (h : ∀ x ∈ S, x.length ≤ n) : total S ≤ S.length * n := by
  induction S with
  | nil => simp [total]
  | cons x r ih =>
    have h1 := h x (List.mem_cons_self ..)
    have h2 := ih fun y hy => h y (List.mem_cons_of_mem _ hy)
    rw [total, List.length_cons, Nat.add_mul]
    omega

/-- What is left of each list. -/
def sufs : List (List Pc) → List Nat → List (List Pc)
  | x :: r, n :: t => x.drop n :: sufs r t
  | _, _ => []
theorem sufs_len : ∀ (S : List (List Pc)) (ns : List Nat), ns.length = S.length → (sufs S ns).length = S.length
  | [], ns, h => by cases ns <;> rfl
  | x :: r, [], h => by simp at h
  | x :: r, n :: t, h => by simp only [sufs, List.length_cons]; rw [sufs_len r t (by simpa using h)]
theorem sufs_at : ∀ (S : List (List Pc)) (ns : List Nat) (k : Nat) (h1 : k < S.length) (h2 : k < ns.length), (sufs S ns)[k]? = some (S[k].drop ns[k])
  | x :: r, n :: t, 0, _, _ => rfl
  | x :: r, n :: t, k + 1, h1, h2 => by simpa [sufs] using sufs_at r t k (by simpa using h1) (by simpa using h2)
theorem sufs_set : ∀ (S : List (List Pc)) (ns : List Nat) (k m : Nat) (h1 : k < S.length), ns.length = S.length → sufs S (ns.set k m) = (sufs S ns).set k (S[k].drop m)
  | x :: r, n :: t, 0, m, _, _ => rfl
  | x :: r, n :: t, k + 1, m, h1, h => by simp [sufs, sufs_set r t k m (by simpa using h1) (by simpa using h)]
  | x :: r, [], k, m, h1, h => by simp at h
theorem sufs_zero : ∀ (S : List (List Pc)), sufs S (List.replicate S.length 0) = S
  | [] => rfl
  | x :: r => by simp [sufs, List.replicate_succ, sufs_zero r]
def natCells (l : List Nat) : List Value := l.map fun n : Nat => Value.int .i64 (n : Int)
theorem ref_step (S0 : List (List Pc)) (ns : List Nat) (hlen : ns.length = S0.length) (t : Nat) (hne : ne (sufs S0 ns) ≠ []) :
    ∃ (kk : Nat) (h1 : kk < S0.length) (h2 : kk < ns.length) (h3 : ns[kk] < S0[kk].length), (nz (sufs S0 ns) 0)[t % (nz (sufs S0 ns) 0).length]? = some kk ∧
      ∀ ts : List Nat, ts.headD 0 = t → wv ts (sufs S0 ns) = S0[kk][ns[kk]] :: wv ts.tail (sufs S0 (ns.set kk (ns[kk] + 1))) := by
  obtain ⟨p, r, hp⟩ := turn_some t hne
  obtain ⟨kk, h1, h2, h3⟩ := nz_spec (sufs S0 ns) 0 _ _ hp
  rw [Nat.zero_add] at h1
  have hkl : kk < (sufs S0 ns).length := (List.getElem?_eq_some_iff.1 h2).1
  rw [sufs_len S0 ns hlen] at hkl
  have hkn : kk < ns.length := by omega
  rw [sufs_at S0 ns kk hkl hkn] at h2
  have hd : S0[kk].drop ns[kk] = p :: r := Option.some.inj h2
  have hlt : ns[kk] < S0[kk].length := by
    have := congrArg List.length hd
    rw [List.length_drop, List.length_cons] at this
    omega
  rw [List.drop_eq_getElem_cons hlt] at hd
  obtain ⟨hpe, hre⟩ := List.cons.inj hd
  refine ⟨kk, hkl, hkn, hlt, by rw [nz_len]; exact h1, fun ts hts => ?_⟩
  have hp2 : (ne (sufs S0 ns))[ts.headD 0 % (ne (sufs S0 ns)).length]? = some (p :: r) := by rw [hts]; exact hp
  rw [wv_step hp2, hts, hpe]
  congr 1
  refine wv_of_ne ?_
  rw [sufs_set S0 ns kk (ns[kk] + 1) hkl hlen, hre]
  exact (h3 r).symm
theorem sufs_total (S0 : List (List Pc)) (ns : List Nat) (h : ne (sufs S0 ns) = []) : total (sufs S0 ns) = 0 := ne_nil_total.1 h
theorem made_nat (n : Nat) : madeCells #[Value.int .i64 0] n = (natCells (List.replicate n 0)).toArray := by
  apply Array.toList_inj.1
  simp only [madeCells, natCells, List.map_replicate]
  refine List.ext_getElem (by simp) fun i h1 h2 => ?_
  simp [Nat.mod_one]
theorem infoInt : (Try.prog.info? 3).map (fun i => (i.zero, i.size, i.bytes)) = some (some (.int .i64 0), 1, 8) := by kernel_rfl
theorem under22 : Try.prog.underlying 22 = some (.slice 3) := by kernel_rfl
/-- THE STATE OF THE REFERENCE's LOOP. -/
structure RvI (w : World) (NB : Nat) (S : List (List Pc)) (ns : List Nat) (pre : List Pc) (sv : Value) (W : World) : Prop where
  below : Below w.heap.size w W
  next : W.heap[NB]? = some (.cells (natCells ns).toArray 3 (0, 0))
  own : W.ownsRow (NB + 1) 36 4 sv pre.length (pcCells pre)
  len : ns.length = S.length
/-- A list of numbers in a row of its own. -/
structure NlI (wo wr : World) (l : List Nat) (sv : Value) : Prop where
  own : wr.ownsRow wo.heap.size 3 1 sv l.length (natCells l)
  below : Below wo.heap.size wo wr
theorem NlI.later {w wr wx : World} {l : List Nat} {sv : Value} (h : NlI w wr l sv) (hb : Below wr.heap.size wr wx) : NlI w wx l sv :=
  ⟨ownsRow_below h.own hb, h.below.trans (hb.mono h.below.size)⟩
theorem NlI.grown {w wr wx : World} {l : List Nat} {sv sv' : Value} {n : Nat} (h : NlI w wr l sv) (hg : wr.grownBy wx sv.ownBlock) (ho : wx.ownsRow w.heap.size 3 1 sv' (l.length + 1) (natCells l ++ [.int .i64 (n : Int)])) : NlI w wx (l ++ [n]) sv' :=
  ⟨by rw [List.length_append]; unfold natCells at ho ⊢; rw [List.map_append]; exact ho, below_grown h.below h.own hg (Nat.le_refl _)⟩
theorem cell_int_new {W : World} {b : Nat} {x : Value} (h : W.heap[b]? = some (.cells #[x] 3 (0, 0))) : ∀ (j : Nat) (u : Value), [x][j]? = some u → W.cell? ((⟨b, 0, none⟩ : Addr).add j) = some u := by
  intro j u hu
  rw [add_none, cells_at h]
  rw [← hu]
  simp
theorem next_at {W : World} {NB k : Nat} {ns : List Nat} (h : W.heap[NB]? = some (.cells (natCells ns).toArray 3 (0, 0))) (hk : k < ns.length) : W.cell? ⟨NB, k, none⟩ = some (.int .i64 (ns[k] : Int)) := by
  rw [cells_at h]
  simp [natCells, hk]
theorem next_free {W : World} {NB k : Nat} {ns : List Nat} (h : W.heap[NB]? = some (.cells (natCells ns).toArray 3 (0, 0))) : W.frozen? ⟨NB, k, none⟩ = false := by simp [World.frozen?, h]
theorem next_set {W : World} {NB k m : Nat} {ns : List Nat} (h : W.heap[NB]? = some (.cells (natCells ns).toArray 3 (0, 0))) : (W.setCell ⟨NB, k, none⟩ (.int .i64 (m : Int))).heap[NB]? = some (.cells (natCells (ns.set k m)).toArray 3 (0, 0)) := by
  rw [Go.Sort.setCell_eq]
  simp only [Go.Sort.mapBlock, Array.getElem?_modify, if_pos, h, Option.map_some, Go.Sort.onCells]
  congr 2
  apply Array.toList_inj.1
  simp [natCells, List.map_set]

end Go.Proofs.Ytclhnpbjmefpeaa
