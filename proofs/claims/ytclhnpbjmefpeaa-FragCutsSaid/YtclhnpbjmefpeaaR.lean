/- Joining's mathematics, and the contract of frag.join. -/
import Derived.Test.YtclhnpbjmefpeaaO
import Derived.Lib.AppendStr
import Derived.Laws.IdiomStrings
import Derived.Lib.BufferRead
namespace Go.Proofs.Ytclhnpbjmefpeaa
open Go.RowKit Go.BigFrame

/-- The bodies in a row. -/
def catB : List Pc → ByteArray
  | [] => ⟨#[]⟩
  | p :: r => p.body ++ catB r
theorem catB_snoc : ∀ (l : List Pc) (p : Pc), catB (l ++ [p]) = catB l ++ p.body
  | [], p => by
    apply ByteArray.ext
    simp [catB]
  | q :: r, p => by
    rw [List.cons_append, catB, catB, catB_snoc r p]
    apply ByteArray.ext
    simp
theorem catB_take {l : List Pc} {k : Nat} (h : k < l.length) : catB (l.take (k + 1)) = catB (l.take k) ++ l[k].body := by
  rw [← catB_snoc, List.take_append_getElem h]
theorem catB_take_size {l : List Pc} {k : Nat} (h : k < l.length) : (catB (l.take (k + 1))).size = (catB (l.take k)).size + l[k].body.size := by
  rw [catB_take h, ByteArray.size_append]
/-- Does the i-th stand in its place, and say rightly whether more come? -/
def okAt (l : List Pc) (i : Nat) : Bool := match l[i]? with
  | none => true
  | some p => decide (p.place = (i : Int)) && (p.more == decide ((i : Int) < (l.length : Int) - 1))
def ordN (l : List Pc) : Nat → Bool
  | 0 => true
  | k + 1 => ordN l k && okAt l k
theorem ordN_false {l : List Pc} {k : Nat} (h : ordN l k = false) : ∀ n, k ≤ n → ordN l n = false
  | 0, hk => by obtain rfl : k = 0 := by omega
                exact h
  | n + 1, hk => by
    by_cases e : k = n + 1
    · subst e; exact h
    · rw [ordN, ordN_false h n (by omega)]; rfl
theorem okAt_at {l : List Pc} {k : Nat} (h : k < l.length) : okAt l k = (decide (l[k].place = (k : Int)) && (l[k].more == decide ((k : Int) < (l.length : Int) - 1))) := by
  unfold okAt
  rw [List.getElem?_eq_getElem h]
/-- The first k are all of the first one's message. -/
def sameTo (l : List Pc) (x : Int) (k : Nat) : Prop := ∀ i, i < k → ∀ h : i < l.length, l[i].id = x
def idOf : List Pc → Int
  | [] => 0
  | p :: _ => p.id
theorem idOf_at {l : List Pc} (h : 0 < l.length) : idOf l = l[0].id := by
  cases l with
  | nil => exact absurd h (by simp)
  | cons p r => rfl
def sameL (l : List Pc) : Bool := l.all fun p => decide (p.id = idOf l)
theorem same_all {l : List Pc} (h : sameTo l (idOf l) l.length) : sameL l = true := List.all_eq_true.2 fun d hd => by
  obtain ⟨i, hi, rfl⟩ := List.getElem_of_mem hd
  exact decide_eq_true (h i hi hi)
theorem same_bad {l : List Pc} {i : Nat} (h : i < l.length) (hb : ¬ l[i].id = idOf l) : sameL l = false := by
  cases ha : sameL l with
  | false => rfl
  | true =>
    have := List.all_eq_true.1 ha _ (List.getElem_mem h)
    exact absurd (of_decide_eq_true this) hb
theorem sameTo.snoc {l : List Pc} {x : Int} {n : Nat} (h : sameTo l x n) (hv : ∀ h : n < l.length, l[n].id = x) : sameTo l x (n + 1) := fun i hi hl => by
  by_cases e : i = n
  · subst e; exact hv hl
  · exact h i (by omega) hl
/-- What joining valid pieces returns. -/
def joinE (l : List Pc) : Int := if l.length = 0 then 11 else if sameL l = true then (if ordN l l.length = true then (if 65536 < (catB l).size then 4 else 0) else 9) else 10
def joinI (l : List Pc) : Int := if joinE l = 0 then idOf l else 0
def joinB (l : List Pc) : ByteArray := if joinE l = 0 then catB l else ⟨#[]⟩
def JoinPost (w : World) (l : List Pc) (e : Ending) (w' : World) : Prop := e = .returned (.tuple #[.int .i64 (joinI l), .string (joinB l), .int .i64 (joinE l)]) ∧ Below w.heap.size w w'
theorem JoinPost.bad {w w' : World} {l : List Pc} {e : Ending} {n : Int} (hn : joinE l = n) (h0 : n ≠ 0) (he : e = .returned (.tuple #[.int .i64 0, .string ⟨#[]⟩, .int .i64 n])) (hb : Below w.heap.size w w') : JoinPost w l e w' := by
  subst hn
  exact ⟨by rw [he, joinI, joinB, if_neg h0, if_neg h0], hb⟩
theorem JoinPost.good {w w' : World} {l : List Pc} {e : Ending} (hn : joinE l = 0) (he : e = .returned (.tuple #[.int .i64 (idOf l), .string (catB l), .int .i64 0])) (hb : Below w.heap.size w w') : JoinPost w l e w' :=
  ⟨by rw [he, joinI, joinB, if_pos hn, if_pos hn, hn], hb⟩
theorem joinE_empty {l : List Pc} (h : l.length = 0) : joinE l = 11 := by unfold joinE; rw [if_pos h]
theorem joinE_kind {l : List Pc} (h : ¬ l.length = 0) (h1 : sameL l = false) : joinE l = 10 := by unfold joinE; rw [if_neg h, if_neg (by rw [h1]; decide)]
theorem joinE_state {l : List Pc} (h : ¬ l.length = 0) (h1 : sameL l = true) (h2 : ordN l l.length = false) : joinE l = 9 := by unfold joinE; rw [if_neg h, if_pos h1, if_neg (by rw [h2]; decide)]
theorem joinE_limit {l : List Pc} (h : ¬ l.length = 0) (h1 : sameL l = true) (h2 : ordN l l.length = true) (h3 : 65536 < (catB l).size) : joinE l = 4 := by unfold joinE; rw [if_neg h, if_pos h1, if_pos h2, if_pos h3]
theorem joinE_ok {l : List Pc} (h : ¬ l.length = 0) (h1 : sameL l = true) (h2 : ordN l l.length = true) (h3 : ¬ 65536 < (catB l).size) : joinE l = 0 := by unfold joinE; rw [if_neg h, if_pos h1, if_pos h2, if_neg h3]

/-- What join has written so far. -/
structure BufI (l : List Pc) (k : Nat) (s : ByteArray) : Prop where
  is : s = catB (l.take k) ∨ 65536 < s.size ∧ 65536 < (catB (l.take k)).size
  few : s.size ≤ 131072
theorem BufI.zero (l : List Pc) : BufI l 0 ⟨#[]⟩ := ⟨.inl rfl, Nat.zero_le _⟩
theorem BufI.full {l : List Pc} {k : Nat} {s : ByteArray} (h : BufI l k s) (hk : k < l.length) (hs : ¬ s.size ≤ 65536) : BufI l (k + 1) s := by
  refine ⟨.inr ⟨by omega, ?_⟩, h.few⟩
  rw [catB_take_size hk]
  rcases h.is with h0 | ⟨_, h1⟩
  · rw [h0] at hs; omega
  · omega
theorem BufI.more {l : List Pc} {k : Nat} {s : ByteArray} (h : BufI l k s) (hk : k < l.length) (hs : s.size ≤ 65536) (hb : l[k].body.size ≤ 65536) : BufI l (k + 1) (s ++ l[k].body) := by
  rcases h.is with h0 | ⟨h1, _⟩
  · exact ⟨.inl (by rw [catB_take hk, h0]), by rw [ByteArray.size_append]; omega⟩
  · omega
theorem BufI.done {l : List Pc} {s : ByteArray} (h : BufI l l.length s) : (s.size ≤ 65536 → s = catB l ∧ ¬ 65536 < (catB l).size) ∧ (¬ s.size ≤ 65536 → 65536 < (catB l).size) := by
  rcases h.is with h0 | ⟨h1, h2⟩
  · rw [List.take_length] at h0
    subst h0
    exact ⟨fun h => ⟨rfl, by omega⟩, fun h => by omega⟩
  · rw [List.take_length] at h2
    exact ⟨fun h => by omega, fun _ => h2⟩
theorem vP_body {p : Pc} (h : vP p = true) : p.body.size ≤ 65536 := by
  simp only [vP, Bool.and_eq_true, decide_eq_true_eq] at h
  exact h.2.2.1

theorem infoU8 : (Try.prog.info? 5).map (fun i => (i.zero, i.size, i.bytes)) = some (some (.int .u8 0), 1, 1) := by kernel_rfl
theorem strCells_append (a b : ByteArray) : Lib.strCells (a ++ b) = Lib.strCells a ++ Lib.strCells b := by simp [Lib.strCells]
/-- Bytes that the call owns. -/
structure BtI (w wr : World) (s : ByteArray) (sv : Value) : Prop where
  own : wr.ownsRow w.heap.size 5 1 sv s.size (Lib.strCells s)
  below : Below w.heap.size w wr
theorem BtI.later {w wr wx : World} {s : ByteArray} {sv : Value} (h : BtI w wr s sv) (hb : Below wr.heap.size wr wx) : BtI w wx s sv :=
  ⟨ownsRow_below h.own hb, h.below.trans (hb.mono h.below.size)⟩
theorem BtI.grown {w wr wx : World} {s b : ByteArray} {sv sv' : Value} (h : BtI w wr s sv) (hg : wr.grownBy wx sv.ownBlock) (ho : wx.ownsRow w.heap.size 5 1 sv' (s.size + b.size) (Lib.strCells s ++ Lib.strCells b)) : BtI w wx (s ++ b) sv' :=
  ⟨by rw [strCells_append, ByteArray.size_append]; exact ho, below_grown h.below h.own hg (Nat.le_refl _)⟩
theorem bt_len {W : World} {base n : Nat} {sv : Value} {xs : List Value} (h : W.ownsRow base 5 1 sv n xs) : ∃ a c, sv = .slice a n c := by
  rcases h.2 with ⟨rfl, rfl⟩ | ⟨g, cap, _, rfl, _⟩
  · exact ⟨none, 0, rfl⟩
  · exact ⟨some ⟨g, 0, none⟩, cap, rfl⟩
theorem BtI.conv {w wr : World} {s : ByteArray} {sv : Value} (h : BtI w wr s sv) : (convert 54 9 sv).run Try.prog wr = .ok (.string s) wr := by
  have hl : s.data.toList.length = s.size := by simp
  rcases h.own.2 with ⟨rfl, h0⟩ | ⟨g, cap, cur, rfl, _, hg, _, _, _, htk⟩
  · obtain rfl : s = ⟨#[]⟩ := by
      apply ByteArray.ext
      exact Array.eq_empty_of_size_eq_zero h0
    exact Lib.run_convert_nil_bytes wr 54 9 5 0 Try.underlying54 Try.underlying5 Try.underlying9
  · have h1 := run_convert_bytes_back wr 54 9 5 ⟨g, 0, none⟩ cap s.data.toList Try.underlying54 Try.underlying5 Try.underlying9 fun j hj => by
      refine h.own.cells (g := g) rfl j _ ?_
      have hj' : j < s.data.size := by simpa using hj
      simp only [Lib.strCells, List.getElem?_map, List.getElem?_eq_getElem hj, Option.map_some]
    rw [hl] at h1
    rw [h1]
theorem BtI.drewN {w wr : World} {s : ByteArray} {sv : Value} (h : BtI w wr s sv) (q : Nat) : BtI w (wr.drewN q) s sv := h.later (below_drewN' _ _)

/-- The loop's state. -/
structure JoinI (w : World) (l : List Pc) (x : Int) (d v o i : Value) (wr : World) : Prop where
  out : ∃ (k : Nat) (s : ByteArray), d = .int .i64 x ∧ i = .int .i64 k ∧ k ≤ l.length ∧ sameTo l x k ∧ o = .bool (ordN l k) ∧ BufI l k s ∧ BtI w wr s v

set_option maxRecDepth 100000 in
set_option maxHeartbeats 4000000 in
theorem join_any (ao : Option Addr) (cap : Nat) (l : List Pc) (w : World) (h : RowAt w ao l) (hl : l.length ≤ 2000) (hv : allV l = true) :
    Calls Try.prog 31 #[.slice ao l.length cap] w (JoinPost w l) := by
  by_cases h0 : l.length = 0
  · have HE := Lib.hid (joinE_empty h0)
    have e1 : decide ((l.length : Int) = 0) = true := decide_eq_true (by omega)
    have e2 : (l.length : Int) = 0 := by omega
    clear h hl hv h0
    go_enter Try.func31, Try.ntmps31
    go_wp2_with fail
    go_ret3
    exact JoinPost.bad HE.out (by decide) rfl (Below.refl _ _)
  rcases h with h1 | ⟨b, off, rfl, hb, hp⟩
  · subst h1; exact absurd rfl h0
  have hpos : 0 < l.length := by omega
  obtain ⟨x, hx⟩ : ∃ x, idOf l = x := ⟨_, rfl⟩
  have c00 : w.cell? ⟨b, off, none⟩ = some (.int .i64 x) := by
    have := (hp 0 hpos).1
    rw [Nat.zero_mul, Nat.add_zero] at this
    rw [this, ← hx, idOf_at hpos]
  have e1 : decide ((l.length : Int) = 0) = false := decide_eq_false (by omega)
  have e2 : ¬ (l.length : Int) = 0 := by omega
  have e3 : (0 : Int) < (l.length : Int) := by omega
  have HP := Lib.hid hp
  have HB0 := Lib.hid hb
  have HL := Lib.hid hl
  have HV := Lib.hid (allV_at hv)
  have HX := Lib.hid hx
  have H0 := Lib.hid h0
  clear hp hb hl hv hx hpos h0
  obtain ⟨i0, hi, hz0, hz1, hz2⟩ := info_parts infoU8
  go_enter Try.func31, Try.ntmps31
  go_wp2_with fail
  go_loopw [2, 5, 6, 18] (fun d v o i wr => JoinI w l x d v o i wr) (fun _ _ _ i _ => l.length - (intOf i).toNat)
  case atStart => exact ⟨0, ⟨#[]⟩, rfl, rfl, Nat.zero_le _, (fun i h => absurd h (Nat.not_lt_zero i)), rfl, BufI.zero l, ⟨World.ownsRow_nil _ _ _ _, Below.refl _ _⟩⟩
  case round =>
    obtain ⟨k, s, rfl, rfl, hk, hsame, rfl, hbuf, hbt⟩ := hrel.out
    clear hrel
    obtain ⟨a0, c0, rfl⟩ := bt_len hbt.own
    have HS := Lib.hid hsame
    have HU := Lib.hid hbuf
    have HT := Lib.hid hbt
    obtain ⟨od, hod⟩ : ∃ od, ordN l k = od := ⟨_, rfl⟩
    rw [hod]
    have HO := Lib.hid hod
    clear hsame hbuf hbt hod
    by_cases hlt : k < l.length
    · obtain ⟨c0, c1, c2, c3⟩ := (HP.out.below HT.out.below HB0.out) k hlt
      have HN : Hid (ordN l (k + 1) = (od && okAt l k)) := Lib.hid (by rw [← HO.out]; rfl)
      have HOK := Lib.hid (okAt_at hlt)
      have HMORE := Lib.hid fun h9 h8 => HU.out.more hlt h9 h8
      have HFULL := Lib.hid fun h9 => HU.out.full hlt h9
      have HBAD := Lib.hid fun h9 => same_bad hlt h9
      have HVP := Lib.hid (HV.out _ (List.getElem_mem hlt))
      obtain ⟨p, hpp⟩ : ∃ p, l[k] = p := ⟨_, rfl⟩
      rw [hpp] at c0 c1 c2 c3 HOK HMORE HBAD HVP
      obtain ⟨pi, pl, m, bd⟩ := p
      simp only at c0 c1 c2 c3 HOK HMORE HBAD
      have HPP := Lib.hid hpp
      have HLT := Lib.hid hlt
      have hk1 : (k : Int) < (l.length : Int) := by omega
      have HW : Hid (wrap64 ((l.length : Int) - 1) = (l.length : Int) - 1) := Lib.hid (Go.IntWalk.wrap64_in _ (by have := HL.out; omega))
      have hk2 : (k : Int) + 1 ≤ 2000 := by have := HL.out; omega
      have hk0 : (0 : Int) ≤ (k : Int) := by omega
      have HA : Hid (Below wr.heap.size wr (wr.alloc (pcO pi pl m bd))) := Lib.hid ((Below.refl _ _).alloc (Nat.le_refl _) _)
      clear hpp
      by_cases hid : pi = x
      · subst hid
        have ei : decide (pi = pi) = true := decide_eq_true rfl
        have HSN : Hid (sameTo l pi (k + 1)) := Lib.hid (HS.out.snoc fun _ => by rw [HPP.out])
        by_cases hs : s.size ≤ 65536
        · have es : (s.size : Int) ≤ 65536 := by omega
          have es2 : decide ((s.size : Int) ≤ 65536) = true := decide_eq_true es
          have HSZ := Lib.hid hs
          have HBF : Hid (BufI l (k + 1) (s ++ bd)) := Lib.hid (HMORE.out hs (vP_body HVP.out))
          clear hs
          cases od
          · go_wp2_with (at_builtin; refine Lib.wpList_append_own_string _ rfl _ _ 54 9 rfl w.heap.size 5 i0 Try.underlying54 Try.underlying9 hi hz0 hz1 hz2 _ _ (Lib.strCells s) rfl (HT.out.later HA.out).own bd rfl (by have := HSZ.out; have := vP_body HVP.out; simp only at this; unfold maxLen; omega) (by have := HSZ.out; have := vP_body HVP.out; simp only at this; omega) (by have := HT.out.below.size; simp; omega) ?_; intro v' w3 hown' hgrow _; have HT3 := Lib.hid (BtI.grown (HT.out.later HA.out) hgrow hown'); clear hown' hgrow)
            first | exact ⟨⟨k + 1, s ++ bd, rfl, by go_num, HLT.out, HSN.out, by rw [HN.out, Bool.false_and], HBF.out, HT3.out⟩, by simp [intOf]; have := HLT.out; omega⟩ | exact ⟨⟨_, _, _, _, _, _, _, _, ⟨k + 1, s ++ bd, rfl, by go_num, HLT.out, HSN.out, by rw [HN.out, Bool.false_and], HBF.out, HT3.out⟩, rfl, rfl, rfl, rfl, rfl, rfl, rfl, rfl⟩, by simp [intOf]; have := HLT.out; omega⟩
          · by_cases hpl : pl = (k : Int)
            · subst hpl
              go_wp2_with (at_builtin; refine Lib.wpList_append_own_string _ rfl _ _ 54 9 rfl w.heap.size 5 i0 Try.underlying54 Try.underlying9 hi hz0 hz1 hz2 _ _ (Lib.strCells s) rfl (HT.out.later HA.out).own bd rfl (by have := HSZ.out; have := vP_body HVP.out; simp only at this; unfold maxLen; omega) (by have := HSZ.out; have := vP_body HVP.out; simp only at this; omega) (by have := HT.out.below.size; simp; omega) ?_; intro v' w3 hown' hgrow _; have HT3 := Lib.hid (BtI.grown (HT.out.later HA.out) hgrow hown'); clear hown' hgrow)
              first | exact ⟨⟨k + 1, s ++ bd, rfl, by go_num, HLT.out, HSN.out, by rw [HN.out, HOK.out, HW.out]; simp, HBF.out, HT3.out⟩, by simp [intOf]; have := HLT.out; omega⟩ | exact ⟨⟨_, _, _, _, _, _, _, _, ⟨k + 1, s ++ bd, rfl, by go_num, HLT.out, HSN.out, by rw [HN.out, HOK.out, HW.out]; simp, HBF.out, HT3.out⟩, rfl, rfl, rfl, rfl, rfl, rfl, rfl, rfl⟩, by simp [intOf]; have := HLT.out; omega⟩
            · have ep : decide (pl = (k : Int)) = false := decide_eq_false hpl
              go_wp2_with (at_builtin; refine Lib.wpList_append_own_string _ rfl _ _ 54 9 rfl w.heap.size 5 i0 Try.underlying54 Try.underlying9 hi hz0 hz1 hz2 _ _ (Lib.strCells s) rfl (HT.out.later HA.out).own bd rfl (by have := HSZ.out; have := vP_body HVP.out; simp only at this; unfold maxLen; omega) (by have := HSZ.out; have := vP_body HVP.out; simp only at this; omega) (by have := HT.out.below.size; simp; omega) ?_; intro v' w3 hown' hgrow _; have HT3 := Lib.hid (BtI.grown (HT.out.later HA.out) hgrow hown'); clear hown' hgrow)
              first | exact ⟨⟨k + 1, s ++ bd, rfl, by go_num, HLT.out, HSN.out, by rw [HN.out, HOK.out, decide_eq_false hpl, Bool.false_and, Bool.and_false], HBF.out, HT3.out⟩, by simp [intOf]; have := HLT.out; omega⟩ | exact ⟨⟨_, _, _, _, _, _, _, _, ⟨k + 1, s ++ bd, rfl, by go_num, HLT.out, HSN.out, by rw [HN.out, HOK.out, decide_eq_false hpl, Bool.false_and, Bool.and_false], HBF.out, HT3.out⟩, rfl, rfl, rfl, rfl, rfl, rfl, rfl, rfl⟩, by simp [intOf]; have := HLT.out; omega⟩
        · have es : ¬ (s.size : Int) ≤ 65536 := by omega
          have es2 : decide ((s.size : Int) ≤ 65536) = false := decide_eq_false es
          have HBF : Hid (BufI l (k + 1) s) := Lib.hid (HFULL.out hs)
          have HT3 := Lib.hid (HT.out.later HA.out)
          clear hs
          cases od
          · go_wp2_with fail
            first | exact ⟨⟨k + 1, s, rfl, by go_num, HLT.out, HSN.out, by rw [HN.out, Bool.false_and], HBF.out, HT3.out⟩, by simp [intOf]; have := HLT.out; omega⟩ | exact ⟨⟨_, _, _, _, _, _, _, _, ⟨k + 1, s, rfl, by go_num, HLT.out, HSN.out, by rw [HN.out, Bool.false_and], HBF.out, HT3.out⟩, rfl, rfl, rfl, rfl, rfl, rfl, rfl, rfl⟩, by simp [intOf]; have := HLT.out; omega⟩
          · by_cases hpl : pl = (k : Int)
            · subst hpl
              go_wp2_with fail
              first | exact ⟨⟨k + 1, s, rfl, by go_num, HLT.out, HSN.out, by rw [HN.out, HOK.out, HW.out]; simp, HBF.out, HT3.out⟩, by simp [intOf]; have := HLT.out; omega⟩ | exact ⟨⟨_, _, _, _, _, _, _, _, ⟨k + 1, s, rfl, by go_num, HLT.out, HSN.out, by rw [HN.out, HOK.out, HW.out]; simp, HBF.out, HT3.out⟩, rfl, rfl, rfl, rfl, rfl, rfl, rfl, rfl⟩, by simp [intOf]; have := HLT.out; omega⟩
            · have ep : decide (pl = (k : Int)) = false := decide_eq_false hpl
              go_wp2_with fail
              first | exact ⟨⟨k + 1, s, rfl, by go_num, HLT.out, HSN.out, by rw [HN.out, HOK.out, decide_eq_false hpl, Bool.false_and, Bool.and_false], HBF.out, HT3.out⟩, by simp [intOf]; have := HLT.out; omega⟩ | exact ⟨⟨_, _, _, _, _, _, _, _, ⟨k + 1, s, rfl, by go_num, HLT.out, HSN.out, by rw [HN.out, HOK.out, decide_eq_false hpl, Bool.false_and, Bool.and_false], HBF.out, HT3.out⟩, rfl, rfl, rfl, rfl, rfl, rfl, rfl, rfl⟩, by simp [intOf]; have := HLT.out; omega⟩
      · have ei : decide (pi = x) = false := decide_eq_false hid
        have HE : Hid (joinE l = 10) := Lib.hid (joinE_kind H0.out (HBAD.out (by rw [HX.out]; exact hid)))
        go_wp2_with fail
        go_ret3
        exact JoinPost.bad HE.out (by decide) rfl (HT.out.later HA.out).below
    · obtain rfl : k = l.length := by omega
      have HSA : Hid (sameL l = true) := Lib.hid (same_all (by rw [HX.out]; exact HS.out))
      obtain ⟨d1, d2⟩ := HU.out.done
      have HD1 := Lib.hid d1
      have HD2 := Lib.hid d2
      clear hlt hk d1 d2
      cases od
      · have HE : Hid (joinE l = 9) := Lib.hid (joinE_state H0.out HSA.out HO.out)
        go_wp2_with fail
        go_ret3
        exact JoinPost.bad HE.out (by decide) rfl HT.out.below
      · by_cases hs : s.size ≤ 65536
        · obtain ⟨g1, g2⟩ := HD1.out hs
          have HE : Hid (joinE l = 0) := Lib.hid (joinE_ok H0.out HSA.out HO.out g2)
          have HG := Lib.hid g1
          have es : ¬ (65536 : Int) < (s.size : Int) := by omega
          have es2 : decide ((65536 : Int) < (s.size : Int)) = false := decide_eq_false es
          have hcv : (convert 54 9 (.slice a0 s.size c0)).run Try.prog wr.drew = .ok (.string s) wr.drew := (HT.out.later (show Below wr.heap.size wr wr.drew from below_drewN' wr 1)).conv
          clear g1 g2 hs
          go_wp2_with fail
          go_region
          go_wp2_with fail
          go_ret3
          exact JoinPost.good HE.out (by rw [HX.out, ← HG.out]; rfl) (HT.out.later (show Below wr.heap.size wr wr.drew from below_drewN' wr 1)).below
        · have HE : Hid (joinE l = 4) := Lib.hid (joinE_limit H0.out HSA.out HO.out (HD2.out hs))
          have es : (65536 : Int) < (s.size : Int) := by omega
          have es2 : decide ((65536 : Int) < (s.size : Int)) = true := decide_eq_true es
          clear hs
          go_wp2_with fail
          go_ret3
          exact JoinPost.bad HE.out (by decide) rfl HT.out.below

end Go.Proofs.Ytclhnpbjmefpeaa
