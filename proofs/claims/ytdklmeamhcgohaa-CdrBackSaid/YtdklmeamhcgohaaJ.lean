/-
  PROVED HERE: what Swap of package cdr and its twin of the reference return, for all texts of up to 2000 bytes and all numbers.
-/
import Derived.Test.YtdklmeamhcgohaaI
import Derived.Test.YtdklmeamhcgohaaF
import Derived.Laws.IdiomStrings
import Derived.Laws.OwnMore
import Derived.Deep.OwnRows
namespace Go.Proofs.Ytdklmeamhcgohaa
open Go.RowKit

/-- THE BYTES xs LIE AT THE HEAD OF BLOCK g, none of them frozen. -/
def RowAt (W : World) (g : Nat) (xs : List UInt8) : Prop := ∃ cur lo hi, W.heap[g]? = some (.cells cur 5 (lo, hi)) ∧ (xs.length ≤ lo ∨ hi = 0) ∧ cur.toList.take xs.length = bcells xs

theorem RowAt.cell {W : World} {g : Nat} {xs : List UInt8} (h : RowAt W g xs) (j : Nat) (hj : j < xs.length) : W.cell? ⟨g, j, none⟩ = some (.int .u8 (xs[j].toNat : Int)) := by
  obtain ⟨cur, lo, hi, hg, _, ht⟩ := h
  rw [Go.cell_of_row W g j cur 5 (lo, hi) hg]
  have h1 : (cur.toList.take xs.length)[j]? = (bcells xs)[j]? := by rw [ht]
  rw [List.getElem?_take, if_pos hj] at h1
  simpa [bcells, hj] using h1

theorem RowAt.frozen {W : World} {g : Nat} {xs : List UInt8} (h : RowAt W g xs) (j : Nat) (hj : j < xs.length) : W.frozen? ⟨g, j, none⟩ = false := by
  obtain ⟨cur, lo, hi, hg, hf, _⟩ := h
  unfold World.frozen?
  simp only [hg]
  rcases hf with hf | hf
  · simp; omega
  · simp [hf]

theorem RowAt.lt {W : World} {g : Nat} {xs : List UInt8} (h : RowAt W g xs) : g < W.heap.size := by
  obtain ⟨cur, lo, hi, hg, _⟩ := h
  exact (Array.getElem?_eq_some_iff.1 hg).1

theorem RowAt.store {W : World} {g : Nat} {xs : List UInt8} (h : RowAt W g xs) (j : Nat) (u : UInt8) : RowAt (W.setCell ⟨g, j, none⟩ (.int .u8 (u.toNat : Int))) g (xs.set j u) := by
  obtain ⟨cur, lo, hi, hg, hf, ht⟩ := h
  refine ⟨cur.setIfInBounds j (.int .u8 (u.toNat : Int)), lo, hi, ?_, by simpa using hf, ?_⟩
  · obtain ⟨hlt, hk⟩ := Array.getElem?_eq_some_iff.1 hg
    show (W.heap.modify g _)[g]? = _
    rw [Array.getElem?_eq_getElem (by rw [Array.size_modify]; exact hlt), Array.getElem_modify_self, hk]
    rfl
  · rw [Array.toList_setIfInBounds, List.length_set, List.take_set, ht]
    simp [bcells, List.map_set]

theorem RowAt.conv {W : World} {g cap : Nat} {xs : List UInt8} (h : RowAt W g xs) : (convert 54 9 (.slice (some ⟨g, 0, none⟩) xs.length cap)).run Try.prog W = .ok (.string ⟨xs.toArray⟩) W := by
  refine run_convert_bytes_back W 54 9 5 ⟨g, 0, none⟩ cap xs Try.underlying54 Try.underlying5 Try.underlying9 fun j hj => ?_
  have : (⟨g, 0, none⟩ : Addr).add j = ⟨g, j, none⟩ := by unfold Addr.add; split <;> simp_all
  rw [this]
  exact h.cell j hj

theorem RowAt.made (w : World) (n : Nat) : RowAt (w.alloc (.cells (madeCells #[.int .u8 0] n) 5)) w.heap.size (List.replicate n 0) := by
  refine ⟨_, 0, 0, heap_alloc_new w _, .inr rfl, ?_⟩
  rw [toList_madeCells_one]
  simp [bcells]

theorem RowAt.ofText (w : World) (s : ByteArray) (cap : Nat) : RowAt (w.alloc (.cells (bytesRow s cap) 5 ((bytesRow s cap).size, (bytesRow s cap).size + 1))) w.heap.size s.data.toList := by
  refine ⟨_, _, _, heap_alloc_new w _, .inl ?_, ?_⟩
  · simp [bytesRow]
  · simp [bytesRow, bcells]

/-- The byte that stands where byte i goes. -/
def mir (n i : Nat) : Nat := i - i % n + (n - 1 - i % n)

theorem mir_int (n k : Nat) (hn : 1 ≤ n) : (k : Int) - (k : Int) % (n : Int) + (n : Int) - 1 - (k : Int) % (n : Int) = (mir n k : Int) := by
  have h1 : k % n < n := Nat.mod_lt _ hn
  have h2 : k % n ≤ k := Nat.mod_le _ _
  have h3 : ((k % n : Nat) : Int) = (k : Int) % (n : Int) := Int.natCast_emod _ _
  unfold mir
  omega

theorem mir_div (n k : Nat) : mir n k = n * (k / n) + (n - 1 - k % n) := by
  have := Nat.div_add_mod k n
  unfold mir
  omega

theorem mir_mod (n k : Nat) (hn : 1 ≤ n) : mir n k % n = n - 1 - k % n ∧ mir n k / n = k / n := by
  have h1 : k % n < n := Nat.mod_lt _ hn
  rw [mir_div n k]
  constructor
  · rw [Nat.mul_add_mod]; exact Nat.mod_eq_of_lt (by omega)
  · have h5 : (n - 1 - k % n) / n = 0 := Nat.div_eq_of_lt (by omega)
    rw [Nat.mul_add_div (by omega), h5]; rfl

theorem mir_mir (n k : Nat) (hn : 1 ≤ n) : mir n (mir n k) = k := by
  obtain ⟨h1, h2⟩ := mir_mod n k hn
  have h3 : k % n < n := Nat.mod_lt _ hn
  have h4 := Nat.div_add_mod k n
  rw [mir_div n (mir n k), h1, h2]
  omega

theorem mir_lt (n k l : Nat) (hn : 1 ≤ n) (hd : l % n = 0) (hk : k < l) : mir n k < l := by
  obtain ⟨h1, h2⟩ := mir_mod n k hn
  have h3 := Nat.div_add_mod l n
  have h4 : k / n < l / n := by
    rw [Nat.div_lt_iff_lt_mul (by omega), Nat.mul_comm]
    omega
  have h5 : mir n k / n < l / n := by omega
  rw [Nat.div_lt_iff_lt_mul (by omega), Nat.mul_comm] at h5
  omega

/-- The bytes in the other order, n by n. -/
def swL (l : List UInt8) (n : Nat) : List UInt8 := (List.range l.length).map fun j => l[mir n j]?.getD 0
theorem swL_length (l : List UInt8) (n : Nat) : (swL l n).length = l.length := by simp [swL]

/-- What stands in the new row when the first k bytes of l have been laid there. -/
def swTo (l : List UInt8) (n k : Nat) : List UInt8 := (List.range l.length).map fun j => if mir n j < k then l[mir n j]?.getD 0 else 0
theorem swTo_length (l : List UInt8) (n k : Nat) : (swTo l n k).length = l.length := by simp [swTo]
theorem swTo_zero (l : List UInt8) (n : Nat) : swTo l n 0 = List.replicate l.length 0 := by
  apply List.ext_getElem <;> simp [swTo]
theorem swTo_step (l : List UInt8) (n k : Nat) (hn : 1 ≤ n) (hk : k < l.length) : (swTo l n k).set (mir n k) l[k] = swTo l n (k + 1) := by
  apply List.ext_getElem
  · simp [swTo]
  · intro j h1 h2
    simp only [swTo, List.length_set, List.length_map, List.length_range] at h1
    by_cases hj : mir n k = j
    · subst hj
      simp [swTo, mir_mir n k hn, hk]
    · have hj2 : mir n j ≠ k := fun e => hj (by rw [← e, mir_mir n j hn])
      rw [List.getElem_set_ne hj]
      simp only [swTo, List.getElem_map, List.getElem_range]
      by_cases h : mir n j < k
      · rw [if_pos h, if_pos (by omega)]
      · rw [if_neg h, if_neg (by omega)]
theorem swTo_all (l : List UInt8) (n : Nat) (hn : 1 ≤ n) (hd : l.length % n = 0) : swTo l n l.length = swL l n := by
  apply List.ext_getElem
  · simp [swTo, swL]
  · intro j h1 h2
    simp only [swTo, List.length_map, List.length_range] at h1
    simp only [swTo, swL, List.getElem_map, List.getElem_range]
    rw [if_pos (mir_lt n j l.length hn hd h1)]

/-- What stands in the copied row when its first k bytes have been laid. -/
def swFrom (l : List UInt8) (n k : Nat) : List UInt8 := (List.range l.length).map fun j => if j < k then l[mir n j]?.getD 0 else l[j]?.getD 0
theorem swFrom_length (l : List UInt8) (n k : Nat) : (swFrom l n k).length = l.length := by simp [swFrom]
theorem swFrom_zero (l : List UInt8) (n : Nat) : swFrom l n 0 = l := by
  apply List.ext_getElem
  · simp [swFrom]
  · intro j h1 h2
    simp [swFrom, h2]
theorem swFrom_step (l : List UInt8) (n k : Nat) (hm : mir n k < l.length) : (swFrom l n k).set k l[mir n k] = swFrom l n (k + 1) := by
  apply List.ext_getElem
  · simp [swFrom]
  · intro j h1 h2
    simp only [swFrom, List.length_set, List.length_map, List.length_range] at h1
    by_cases hj : k = j
    · subst hj
      simp [swFrom, hm]
    · rw [List.getElem_set_ne hj]
      simp only [swFrom, List.getElem_map, List.getElem_range]
      by_cases h : j < k
      · rw [if_pos h, if_pos (by omega)]
      · rw [if_neg h, if_neg (by omega)]
theorem swFrom_all (l : List UInt8) (n : Nat) : swFrom l n l.length = swL l n := by
  apply List.ext_getElem
  · simp [swFrom, swL]
  · intro j h1 h2
    simp only [swFrom, List.length_map, List.length_range] at h1
    simp [swFrom, swL, h1]

theorem swL_swL (l : List UInt8) (n : Nat) (hn : 1 ≤ n) (hd : l.length % n = 0) : swL (swL l n) n = l := by
  apply List.ext_getElem
  · simp [swL]
  · intro j h1 h2
    have h3 := mir_lt n j l.length hn hd h2
    simp [swL, h3, mir_mir n j hn, h2]


/-- What Swap returns. -/
def swE (s : ByteArray) (n : Int) : Int := if szB n then if (s.size : Int) % n = 0 then 0 else 11 else 7
def swS (s : ByteArray) (n : Int) : ByteArray := if szB n then if (s.size : Int) % n = 0 then ⟨(swL s.data.toList n.toNat).toArray⟩ else ⟨#[]⟩ else ⟨#[]⟩

theorem ret_sw {s s' : ByteArray} {c d : Int} (h : s = s') (h2 : c = d) : Ending.returned (.tuple #[.string s, .int .i64 c]) = .returned (.tuple #[.string s', .int .i64 d]) := by rw [h, h2]

theorem text_zero (s : ByteArray) (m : Nat) : List.replicate s.size (0 : UInt8) = swTo s.data.toList m 0 := (swTo_zero s.data.toList m).symm

theorem Try.info5b : (Try.prog.info? 5).map (fun i => (i.zero, i.size, i.bytes)) = some (some (.int .u8 0), 1, 1) := by kernel_rfl

set_option maxRecDepth 100000 in
set_option maxHeartbeats 800000 in
theorem swap33 (s : ByteArray) (n : Int) (w : World) (hs : s.size ≤ 2000) :
    Calls Try.prog 33 #[.string s, .int .i64 n] w fun e w' => e = .returned (.tuple #[.string (swS s n), .int .i64 (swE s n)]) ∧ Below w.heap.size w w' := by
  obtain ⟨r, hr⟩ : ∃ r, szB n = r := ⟨_, rfl⟩
  have HR := Lib.hid hr
  cases r
  · have HV : Hid (⟨#[]⟩ = swS s n) := Lib.hid (by simp [swS, hr])
    have HE : Hid (7 = swE s n) := Lib.hid (by simp [swE, hr])
    clear hr
    go_enter Try.func33, Try.ntmps33
    go_wp2_with (go_at_call 80; refine (isSize_any _ _).mono ?_; rintro e w1 ⟨rfl, hb1⟩; rw [HR.out])
    go_ret2
    exact ⟨ret_sw HV.out HE.out, hb1⟩
  · have hn := (szB_iff n).1 hr
    have hn1 : 1 ≤ n := by omega
    have hn8 : n ≤ 8 := by omega
    by_cases hd : (s.size : Int) % n = 0
    · have HV : Hid (⟨(swL s.data.toList n.toNat).toArray⟩ = swS s n) := Lib.hid (by simp [swS, hr, hd])
      have HE : Hid (0 = swE s n) := Lib.hid (by simp [swE, hr, hd])
      clear hr hn
      obtain ⟨m, rfl⟩ : ∃ m : Nat, n = (m : Int) := ⟨n.toNat, by omega⟩
      simp only [Int.toNat_natCast] at HV
      have hmk := Go.run_make_row' (P := Try.prog) 54 5 (.int .u8 0) 1 Try.underlying54 Try.info5b rfl .i64 .i64 s.size (by omega) (by omega)
      go_enter Try.func33, Try.ntmps33
      go_wp2_with (go_at_call 80; refine (isSize_any _ _).mono ?_; rintro e w1 ⟨rfl, hb1⟩; rw [HR.out])
      have hr0 := RowAt.made w1 s.size
      rw [text_zero s m] at hr0
      have hb0 : Below w.heap.size w (w1.alloc (.cells (madeCells #[.int .u8 0] s.size) 5)) := hb1.alloc hb1.size _
      have hgs := hb1.size
      have HG := Lib.hid hgs
      clear hgs
      generalize w1.alloc (.cells (madeCells #[.int .u8 0] s.size) 5) = w2 at hr0 hb0
      generalize w1.heap.size = g at hr0 HG
      clear hb1 hmk
      go_loopw [21] (fun i wr => ∃ k : Nat, i = .int .i64 k ∧ k ≤ s.size ∧ RowAt wr g (swTo s.data.toList m k) ∧ Below w.heap.size w wr) (fun i _ => s.size - (intOf i).toNat)
      case atStart => exact ⟨0, rfl, Nat.zero_le _, hr0, hb0⟩
      case round =>
        obtain ⟨k, rfl, hk, hrow, hbel⟩ := hrel
        by_cases hlt : k < s.size
        · have h1 : 0 ≤ (k : Int) % (m : Int) := Int.emod_nonneg _ (by omega)
          have h2 : (k : Int) % (m : Int) < (m : Int) := Int.emod_lt_of_pos _ (by omega)
          have h3 : (k : Int) % (m : Int) ≤ (k : Int) := by rw [← Int.natCast_emod]; exact Int.ofNat_le.mpr (Nat.mod_le _ _)
          have hm1 : 1 ≤ m := by omega
          have hdn : s.size % m = 0 := by rw [← Int.natCast_emod] at hd; exact Int.ofNat_eq_zero.mp hd
          have hml := mir_lt m k s.size hm1 hdn hlt
          have hmi := mir_int m k hm1
          have hfr := hrow.frozen (mir m k) (by rw [swTo_length]; exact hml)
          obtain ⟨old, hce⟩ : ∃ old : UInt8, wr.cell? ⟨g, mir m k, none⟩ = some (.int .u8 (old.toNat : Int)) := ⟨_, hrow.cell (mir m k) (by rw [swTo_length]; exact hml)⟩
          obtain ⟨q, hq⟩ : ∃ q, mir m k = q := ⟨_, rfl⟩
          rw [hq] at hmi hml hfr hce
          have HQ := Lib.hid hq
          have HD := Lib.hid hdn
          clear hq hdn
          go_wp2
          go_region
          go_wp2
          refine ⟨⟨k + 1, by go_num, hlt, ?_, (hbel.setCell (p := ⟨g, q, none⟩) HG.out _).drew⟩, by simp [intOf]; omega⟩
          have hst := hrow.store q s.data.toList[k]
          rw [← HQ.out, swTo_step s.data.toList m k hm1 hlt, HQ.out] at hst
          exact hst
        · obtain rfl : k = s.size := by omega
          have hcv := hrow.conv (cap := s.size)
          rw [show swTo s.data.toList m s.size = swL s.data.toList m from swTo_all s.data.toList m (by omega) (by rw [← Int.natCast_emod] at hd; exact Int.ofNat_eq_zero.mp hd), show (swL s.data.toList m).length = s.size from swL_length _ _] at hcv
          go_wp2
          go_ret2
          exact ⟨ret_sw HV.out HE.out, hbel⟩
    · have HV : Hid (⟨#[]⟩ = swS s n) := Lib.hid (by simp [swS, hr, hd])
      have HE : Hid (11 = swE s n) := Lib.hid (by simp [swE, hr, hd])
      clear hr hn
      go_enter Try.func33, Try.ntmps33
      go_wp2_with (go_at_call 80; refine (isSize_any _ _).mono ?_; rintro e w1 ⟨rfl, hb1⟩; rw [HR.out])
      go_ret2
      exact ⟨ret_sw HV.out HE.out, hb1⟩
end Go.Proofs.Ytdklmeamhcgohaa
