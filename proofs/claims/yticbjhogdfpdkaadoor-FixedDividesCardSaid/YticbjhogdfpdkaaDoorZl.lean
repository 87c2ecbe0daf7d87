/- Pack. -/
import Derived.Test.YticbjhogdfpdkaaDoorZk
namespace Go.Proofs.YticbjhogdfpdkaaDoor
set_option maxRecDepth 8000
open Go.RowKit Go.Shelf

def pkB (n s D : Nat) : ByteArray := ⟨((List.range (D / 2 + 1)).map fun x => UInt8.ofNat (pbyte n s (D / 2) D x)).toArray⟩
def sgn (b : Bool) (n : Nat) : Nat := if b = true ∧ n ≠ 0 then 13 else 12

theorem bits_even (d : Nat) (h : d < 10) : bits .or .u8 0 ((d : Int) % 256) = (d : Int) := by
  have : ((List.range 10).all fun d => decide (bits .or .u8 0 (((d : Nat) : Int) % 256) = (d : Int))) = true := by kernel_rfl
  exact of_decide_eq_true (List.all_eq_true.1 this d (List.mem_range.2 h))
theorem bits_odd (o d : Nat) (ho : o < 16) (h : d < 10) : bits .or .u8 (o : Int) ((d : Int) * 16 % 256) = ((o + 16 * d : Nat) : Int) := by
  have : ((List.range 16).all fun o => (List.range 10).all fun d => decide (bits .or .u8 ((o : Nat) : Int) (((d : Nat) : Int) * 16 % 256) = ((o + 16 * d : Nat) : Int))) = true := by kernel_rfl
  exact of_decide_eq_true (List.all_eq_true.1 (List.all_eq_true.1 this o (List.mem_range.2 ho)) d (List.mem_range.2 h))
theorem PkI.drew {w : World} {p g n : Nat} {S : Int} {b : Bool} {s H i : Nat} {W : World} (h : PkI w p g n S b s H i W) : PkI w p g n S b s H i W.drew :=
  ⟨h.a, h.r, h.ne, h.lo, h.bl.trans ((⟨rfl, rfl, rfl, Nat.le_refl _, fun _ _ => rfl⟩ : Below W.heap.size W W.drew).mono h.bl.size)⟩
theorem PkI.stepx {w : World} {p g n : Nat} {S : Int} {b : Bool} {s H i K X : Nat} {W : World} (h : PkI w p g n S b s H i W) (h1 : (i + 1) / 2 = K) (h2 : H - K = X) (h3 : K ≤ H) (v : Nat) (hv : v = pbyte n s H (i + 1) X) : PkI w p g n S b s H (i + 1) (W.setCell ⟨g, X, none⟩ (.int .u8 v)) := by
  subst h1 h2
  exact h.step v h3 hv

set_option maxRecDepth 100000 in
set_option maxHeartbeats 8000000 in
theorem pack_ok (a : ByteArray) (D : Nat) (t : Int) (w : World) (h : Env w) (ha : a.size ≤ 1000) (hD1 : 1 ≤ D) (hD2 : D ≤ 31) (hE : cutE a D t = 0) (hN : cutN a D t < 10 ^ 128) :
    Calls Tryd.prog 30 #[.string a, .int .i64 D, .int .i64 t] w fun e w' => e = .returned (.tuple #[.string (pkB (cutN a D t) (sgn (cutB a D t) (cutN a D t)) D), .int .i64 0]) ∧ Below w.heap.size w w' := by
  have CT := Lib.hid (cutTo_any a D t w h ha)
  rw [hE] at CT
  generalize cutN a D t = N at CT hN ⊢
  generalize cutS a D t = S at CT
  generalize cutB a D t = B at CT ⊢
  have ZR := Lib.hid fun X wx (hd : DigAt wx X N) => zero_any X N wx hd hN
  obtain ⟨H, hH⟩ : ∃ H, D / 2 = H := ⟨_, rfl⟩
  have q1 : (D : Int) / 2 = (H : Int) := by omega
  have q2 : IntKind.i64.wrap ((H : Int) + 1) = (H : Int) + 1 := IntWalk.i64_in _ (by omega)
  have hH15 : H ≤ 15 := by omega
  have mk : ∀ W : World, (Instr.makeSlice 78 (.int .i64 ((H : Int) + 1)) (.int .i64 ((H : Int) + 1))).run Tryd.prog W = .ok (.slice (some ⟨W.heap.size, 0, none⟩) (H + 1) (H + 1)) (W.alloc (.cells (madeCells #[.int .u8 0] (H + 1)) 5)) := fun W => by
    obtain ⟨i0, hi, hz0, hz1, hz2⟩ := info_parts info5
    have := run_makeSlice W 78 5 i0 (.int .u8 0) Tryd.underlying78 hi hz0 .i64 .i64 ((H : Int) + 1) ((H : Int) + 1) (by omega) (Int.le_refl _) (by rw [hz1]; omega) (by rw [hz2]; omega) (by omega)
    rw [hz1, Nat.mul_one, show ((H : Int) + 1).toNat = H + 1 by omega] at this
    exact this
  have PB : pkB N (sgn B N) D = ⟨((List.range (H + 1)).map fun x => UInt8.ofNat (pbyte N (sgn B N) H D x)).toArray⟩ := by unfold pkB; rw [hH]
  have mh : (madeCells #[Value.int .u8 0] (H + 1))[H]? = some (.int .u8 0) := by
    rw [← Array.getElem?_toList]
    simp [madeCells, Nat.mod_one]
  have HM := Lib.hid mh
  have PZ := Lib.hid fun s : Nat => pk_zero N s H
  clear mh
  obtain ⟨T, hT⟩ : ∃ T, pkB N (sgn B N) D = T := ⟨_, rfl⟩
  rw [hT] at PB ⊢
  have HK := Lib.hid (And.intro hD1 (And.intro hD2 hH))
  clear hH hT h ha hN hE hD1 hD2
  go_enter Tryd.func30, Tryd.ntmps30
  cases B with
  | false =>
    have hs : sgn false N = 12 := rfl
    rw [hs] at PB
    have pk0 : (madeCells #[Value.int .u8 0] (H + 1)).setIfInBounds H (.int .u8 12) = pkC N 12 H 0 := PZ.out 12
    go_wp2_with (first | (go_at_call 69; refine CT.out.mono ?_; rintro e w1 ⟨rfl, hb1⟩; have A2 := Lib.hid (NwI.new hb1); clear hb1) | (rw [zero45]; refine wpList_storeV rfl 45 _ _ rfl ⟨w1.heap.size, 0, none⟩ rfl (.agg (nC N S false)) rfl _ (store_num A2.out.a) ?_; have A4 := Lib.hid (A2.out.put (n' := N) (s' := S) (b' := false)); generalize (w1.alloc (.cells (nC 0 0 false) 45)).setRow w1.heap.size (nC N S false) = W4 at A4 ⊢; have s4 := A4.out.a.sign; have k4 := (cells_at (at_block W4 (.cells (madeCells #[.int .u8 0] (H + 1)) 5) _ rfl) H).trans HM.out; have f4 := frozen_at (at_block W4 (.cells (madeCells #[.int .u8 0] (H + 1)) 5) _ rfl) H))
    have HP := Lib.hid (show PkI w w1.heap.size W4.heap.size N S false 12 H 0 (W4.alloc (.cells (pkC N 12 H 0) 5)) from ⟨old_block _ _ _ _ A4.out.a, at_block _ _ _ rfl, Nat.ne_of_lt (blk_lt A4.out.a), A4.out.bl.size, A4.out.bl.alloc A4.out.bl.size _⟩)
    generalize W4.alloc (.cells (pkC N 12 H 0) 5) = W5 at HP ⊢
    generalize hp : w1.heap.size = p at HP ⊢
    generalize hg : W4.heap.size = g at HP ⊢
    clear hp hg s4 k4 f4 mk pk0 CT q2 ZR
    go_loopw [41] (fun i wr => ∃ k : Nat, i = .int .i64 k ∧ k ≤ D ∧ PkI w p g N S false 12 H k wr) (fun i _ => D - (intOf i).toNat)
    case atStart => exact ⟨0, rfl, by omega, HP.out⟩
    case round =>
      obtain ⟨k, rfl, hk, hi⟩ := hrel
      have HI := Lib.hid hi
      clear hi HP
      obtain ⟨d1, d2, d3⟩ := HK.out
      by_cases hlt : k < D
      · obtain ⟨K, hK⟩ : ∃ K, (k + 1) / 2 = K := ⟨_, rfl⟩
        obtain ⟨X, hX⟩ : ∃ X, H - K = X := ⟨_, rfl⟩
        have hKH : K ≤ H := by omega
        have r0 : IntKind.i64.wrap ((k : Int) + 1) = (k : Int) + 1 := IntWalk.i64_in _ (by omega)
        have r1 : ((k : Int) + 1) / 2 = (K : Int) := by omega
        have r3 : (H : Int) - (K : Int) = (X : Int) := by omega
        have r4 : IntKind.i64.wrap (X : Int) = (X : Int) := IntWalk.i64_in _ (by omega)
        have r5 : (0 : Int) ≤ (X : Int) := by omega
        have r6 : (X : Int) < (H : Int) + 1 := by omega
        have r7 : (0 : Int) ≤ (k : Int) := by omega
        have r8 : (k : Int) < 128 := by omega
        have r9 : (k : Int) < (D : Int) := by omega
        have c1 := (cells_at HI.out.r X).trans (pkC_at N 12 H k (by omega))
        have f1 := frozen_at HI.out.r X
        have c2 := HI.out.a.dig k (by omega)
        have ho := pk_old N 12 H k (by rw [hK]; exact hKH)
        rw [hK, hX] at ho
        rw [ho] at c1
        have hn := pk_new N 12 H k (by rw [hK]; exact hKH)
        rw [hK, hX] at hn
        have HN := Lib.hid hn
        have HD := Lib.hid (dig_lt N k)
        have HQ := Lib.hid (And.intro hK (And.intro hX hKH))
        by_cases he : (k + 1) % 2 = 0
        · rw [if_pos he] at c1
          have r2 : ((k : Int) + 1) % 2 = 0 := by omega
          clear ho hn hlt d1 d2 d3 hk hK hX hKH
          go_wp2_with fail
          go_region
          rw [bits_even (dig N k) HD.out]
          have HS := Lib.hid ((HI.out.stepx HQ.out.1 HQ.out.2.1 HQ.out.2.2 (dig N k) (by rw [HN.out, if_pos he])).drew)
          generalize (wr.setCell ⟨g, X, none⟩ (.int .u8 (dig N k))).drew = W9 at HS ⊢
          go_wp2_with fail
          exact ⟨⟨k + 1, by go_num, by omega, HS.out⟩, by simp [intOf]; omega⟩
        · rw [if_neg he] at c1
          have r2 : ((k : Int) + 1) % 2 = 1 := by omega
          clear ho hn hlt d1 d2 d3 hk hK hX hKH
          go_wp2_with fail
          go_region
          rw [bits_odd (half N 12 k k) (dig N k) (half_lt (by decide)) HD.out]
          have HS := Lib.hid ((HI.out.stepx HQ.out.1 HQ.out.2.1 HQ.out.2.2 (half N 12 k k + 16 * dig N k) (by rw [HN.out, if_neg he])).drew)
          generalize (wr.setCell ⟨g, X, none⟩ (.int .u8 ((half N 12 k k + 16 * dig N k : Nat) : Int))).drew = W9 at HS ⊢
          go_wp2_with fail
          exact ⟨⟨k + 1, by go_num, by omega, HS.out⟩, by simp [intOf]; omega⟩
      · obtain rfl : k = D := by omega
        have cv : (convert 78 9 (.slice (some ⟨g, 0, none⟩) (H + 1) (H + 1))).run Tryd.prog wr = .ok (.string T) wr := by
          have := run_convert_bytes_back wr 78 9 5 ⟨g, 0, none⟩ (H + 1) ((List.range (H + 1)).map fun x => UInt8.ofNat (pbyte N 12 H k x)) Tryd.underlying78 Tryd.underlying5 Tryd.underlying9 (fun j hj => by
            have hj2 : j < H + 1 := by simpa using hj
            have ha : (⟨g, 0, none⟩ : Addr).add j = ⟨g, j, none⟩ := by unfold Addr.add; split <;> simp_all
            rw [ha, cells_at HI.out.r j, pkC_at N 12 H k (by omega)]
            have hb := pbyte_lt (n := N) (s := 12) (H := H) (i := k) (x := j) (by decide)
            simp only [List.getElem_map, List.getElem_range, UInt8.toNat_ofNat']
            congr 2
            omega)
          rw [List.length_map, List.length_range] at this
          rw [PB]
          exact this
        clear PB hlt hk
        go_wp2_with fail
        go_ret2
        exact ⟨rfl, HI.out.bl⟩
  | true =>
    by_cases hz : N = 0
    · have hs : sgn true N = 12 := by unfold sgn; rw [if_neg (fun g => g.2 hz)]
      rw [hs] at PB
      have e0 : decide (N = 0) = true := decide_eq_true hz
      have pk0 : (madeCells #[Value.int .u8 0] (H + 1)).setIfInBounds H (.int .u8 12) = pkC N 12 H 0 := PZ.out 12
      rw [e0] at ZR
      clear hz e0 hs
      go_wp2_with (first | (go_at_call 69; refine CT.out.mono ?_; rintro e w1 ⟨rfl, hb1⟩; have A2 := Lib.hid (NwI.new hb1); clear hb1) | (rw [zero45]; refine wpList_storeV rfl 45 _ _ rfl ⟨w1.heap.size, 0, none⟩ rfl (.agg (nC N S true)) rfl _ (store_num A2.out.a) ?_; have A4 := Lib.hid (A2.out.put (n' := N) (s' := S) (b' := true)); generalize (w1.alloc (.cells (nC 0 0 false) 45)).setRow w1.heap.size (nC N S true) = W4 at A4 ⊢; have s4 := A4.out.a.sign; have k4 := (cells_at (at_block W4 (.cells (madeCells #[.int .u8 0] (H + 1)) 5) _ rfl) H).trans HM.out; have f4 := frozen_at (at_block W4 (.cells (madeCells #[.int .u8 0] (H + 1)) 5) _ rfl) H) | (go_at_call 40; refine (ZR.out w1.heap.size _ A4.out.a.dig).mono ?_; rintro e wi ⟨rfl, rfl⟩))
      have HP := Lib.hid (show PkI w w1.heap.size W4.heap.size N S true 12 H 0 (W4.alloc (.cells (pkC N 12 H 0) 5)) from ⟨old_block _ _ _ _ A4.out.a, at_block _ _ _ rfl, Nat.ne_of_lt (blk_lt A4.out.a), A4.out.bl.size, A4.out.bl.alloc A4.out.bl.size _⟩)
      generalize W4.alloc (.cells (pkC N 12 H 0) 5) = W5 at HP ⊢
      generalize hp : w1.heap.size = p at HP ⊢
      generalize hg : W4.heap.size = g at HP ⊢
      clear hp hg s4 k4 f4 mk pk0 CT q2 ZR
      go_loopw [41] (fun i wr => ∃ k : Nat, i = .int .i64 k ∧ k ≤ D ∧ PkI w p g N S true 12 H k wr) (fun i _ => D - (intOf i).toNat)
      case atStart => exact ⟨0, rfl, by omega, HP.out⟩
      case round =>
        obtain ⟨k, rfl, hk, hi⟩ := hrel
        have HI := Lib.hid hi
        clear hi HP
        obtain ⟨d1, d2, d3⟩ := HK.out
        by_cases hlt : k < D
        · obtain ⟨K, hK⟩ : ∃ K, (k + 1) / 2 = K := ⟨_, rfl⟩
          obtain ⟨X, hX⟩ : ∃ X, H - K = X := ⟨_, rfl⟩
          have hKH : K ≤ H := by omega
          have r0 : IntKind.i64.wrap ((k : Int) + 1) = (k : Int) + 1 := IntWalk.i64_in _ (by omega)
          have r1 : ((k : Int) + 1) / 2 = (K : Int) := by omega
          have r3 : (H : Int) - (K : Int) = (X : Int) := by omega
          have r4 : IntKind.i64.wrap (X : Int) = (X : Int) := IntWalk.i64_in _ (by omega)
          have r5 : (0 : Int) ≤ (X : Int) := by omega
          have r6 : (X : Int) < (H : Int) + 1 := by omega
          have r7 : (0 : Int) ≤ (k : Int) := by omega
          have r8 : (k : Int) < 128 := by omega
          have r9 : (k : Int) < (D : Int) := by omega
          have c1 := (cells_at HI.out.r X).trans (pkC_at N 12 H k (by omega))
          have f1 := frozen_at HI.out.r X
          have c2 := HI.out.a.dig k (by omega)
          have ho := pk_old N 12 H k (by rw [hK]; exact hKH)
          rw [hK, hX] at ho
          rw [ho] at c1
          have hn := pk_new N 12 H k (by rw [hK]; exact hKH)
          rw [hK, hX] at hn
          have HN := Lib.hid hn
          have HD := Lib.hid (dig_lt N k)
          have HQ := Lib.hid (And.intro hK (And.intro hX hKH))
          by_cases he : (k + 1) % 2 = 0
          · rw [if_pos he] at c1
            have r2 : ((k : Int) + 1) % 2 = 0 := by omega
            clear ho hn hlt d1 d2 d3 hk hK hX hKH
            go_wp2_with fail
            go_region
            rw [bits_even (dig N k) HD.out]
            have HS := Lib.hid ((HI.out.stepx HQ.out.1 HQ.out.2.1 HQ.out.2.2 (dig N k) (by rw [HN.out, if_pos he])).drew)
            generalize (wr.setCell ⟨g, X, none⟩ (.int .u8 (dig N k))).drew = W9 at HS ⊢
            go_wp2_with fail
            exact ⟨⟨k + 1, by go_num, by omega, HS.out⟩, by simp [intOf]; omega⟩
          · rw [if_neg he] at c1
            have r2 : ((k : Int) + 1) % 2 = 1 := by omega
            clear ho hn hlt d1 d2 d3 hk hK hX hKH
            go_wp2_with fail
            go_region
            rw [bits_odd (half N 12 k k) (dig N k) (half_lt (by decide)) HD.out]
            have HS := Lib.hid ((HI.out.stepx HQ.out.1 HQ.out.2.1 HQ.out.2.2 (half N 12 k k + 16 * dig N k) (by rw [HN.out, if_neg he])).drew)
            generalize (wr.setCell ⟨g, X, none⟩ (.int .u8 ((half N 12 k k + 16 * dig N k : Nat) : Int))).drew = W9 at HS ⊢
            go_wp2_with fail
            exact ⟨⟨k + 1, by go_num, by omega, HS.out⟩, by simp [intOf]; omega⟩
        · obtain rfl : k = D := by omega
          have cv : (convert 78 9 (.slice (some ⟨g, 0, none⟩) (H + 1) (H + 1))).run Tryd.prog wr = .ok (.string T) wr := by
            have := run_convert_bytes_back wr 78 9 5 ⟨g, 0, none⟩ (H + 1) ((List.range (H + 1)).map fun x => UInt8.ofNat (pbyte N 12 H k x)) Tryd.underlying78 Tryd.underlying5 Tryd.underlying9 (fun j hj => by
              have hj2 : j < H + 1 := by simpa using hj
              have ha : (⟨g, 0, none⟩ : Addr).add j = ⟨g, j, none⟩ := by unfold Addr.add; split <;> simp_all
              rw [ha, cells_at HI.out.r j, pkC_at N 12 H k (by omega)]
              have hb := pbyte_lt (n := N) (s := 12) (H := H) (i := k) (x := j) (by decide)
              simp only [List.getElem_map, List.getElem_range, UInt8.toNat_ofNat']
              congr 2
              omega)
            rw [List.length_map, List.length_range] at this
            rw [PB]
            exact this
          clear PB hlt hk
          go_wp2_with fail
          go_ret2
          exact ⟨rfl, HI.out.bl⟩
    · have hs : sgn true N = 13 := by unfold sgn; rw [if_pos ⟨rfl, hz⟩]
      rw [hs] at PB
      have e0 : decide (N = 0) = false := decide_eq_false hz
      have pk0 : (madeCells #[Value.int .u8 0] (H + 1)).setIfInBounds H (.int .u8 13) = pkC N 13 H 0 := PZ.out 13
      rw [e0] at ZR
      clear hz e0 hs
      go_wp2_with (first | (go_at_call 69; refine CT.out.mono ?_; rintro e w1 ⟨rfl, hb1⟩; have A2 := Lib.hid (NwI.new hb1); clear hb1) | (rw [zero45]; refine wpList_storeV rfl 45 _ _ rfl ⟨w1.heap.size, 0, none⟩ rfl (.agg (nC N S true)) rfl _ (store_num A2.out.a) ?_; have A4 := Lib.hid (A2.out.put (n' := N) (s' := S) (b' := true)); generalize (w1.alloc (.cells (nC 0 0 false) 45)).setRow w1.heap.size (nC N S true) = W4 at A4 ⊢; have s4 := A4.out.a.sign; have k4 := (cells_at (at_block W4 (.cells (madeCells #[.int .u8 0] (H + 1)) 5) _ rfl) H).trans HM.out; have f4 := frozen_at (at_block W4 (.cells (madeCells #[.int .u8 0] (H + 1)) 5) _ rfl) H) | (go_at_call 40; refine (ZR.out w1.heap.size _ A4.out.a.dig).mono ?_; rintro e wi ⟨rfl, rfl⟩))
      have HP := Lib.hid (show PkI w w1.heap.size W4.heap.size N S true 13 H 0 (W4.alloc (.cells (pkC N 13 H 0) 5)) from ⟨old_block _ _ _ _ A4.out.a, at_block _ _ _ rfl, Nat.ne_of_lt (blk_lt A4.out.a), A4.out.bl.size, A4.out.bl.alloc A4.out.bl.size _⟩)
      generalize W4.alloc (.cells (pkC N 13 H 0) 5) = W5 at HP ⊢
      generalize hp : w1.heap.size = p at HP ⊢
      generalize hg : W4.heap.size = g at HP ⊢
      clear hp hg s4 k4 f4 mk pk0 CT q2 ZR
      go_loopw [41] (fun i wr => ∃ k : Nat, i = .int .i64 k ∧ k ≤ D ∧ PkI w p g N S true 13 H k wr) (fun i _ => D - (intOf i).toNat)
      case atStart => exact ⟨0, rfl, by omega, HP.out⟩
      case round =>
        obtain ⟨k, rfl, hk, hi⟩ := hrel
        have HI := Lib.hid hi
        clear hi HP
        obtain ⟨d1, d2, d3⟩ := HK.out
        by_cases hlt : k < D
        · obtain ⟨K, hK⟩ : ∃ K, (k + 1) / 2 = K := ⟨_, rfl⟩
          obtain ⟨X, hX⟩ : ∃ X, H - K = X := ⟨_, rfl⟩
          have hKH : K ≤ H := by omega
          have r0 : IntKind.i64.wrap ((k : Int) + 1) = (k : Int) + 1 := IntWalk.i64_in _ (by omega)
          have r1 : ((k : Int) + 1) / 2 = (K : Int) := by omega
          have r3 : (H : Int) - (K : Int) = (X : Int) := by omega
          have r4 : IntKind.i64.wrap (X : Int) = (X : Int) := IntWalk.i64_in _ (by omega)
          have r5 : (0 : Int) ≤ (X : Int) := by omega
          have r6 : (X : Int) < (H : Int) + 1 := by omega
          have r7 : (0 : Int) ≤ (k : Int) := by omega
          have r8 : (k : Int) < 128 := by omega
          have r9 : (k : Int) < (D : Int) := by omega
          have c1 := (cells_at HI.out.r X).trans (pkC_at N 13 H k (by omega))
          have f1 := frozen_at HI.out.r X
          have c2 := HI.out.a.dig k (by omega)
          have ho := pk_old N 13 H k (by rw [hK]; exact hKH)
          rw [hK, hX] at ho
          rw [ho] at c1
          have hn := pk_new N 13 H k (by rw [hK]; exact hKH)
          rw [hK, hX] at hn
          have HN := Lib.hid hn
          have HD := Lib.hid (dig_lt N k)
          have HQ := Lib.hid (And.intro hK (And.intro hX hKH))
          by_cases he : (k + 1) % 2 = 0
          · rw [if_pos he] at c1
            have r2 : ((k : Int) + 1) % 2 = 0 := by omega
            clear ho hn hlt d1 d2 d3 hk hK hX hKH
            go_wp2_with fail
            go_region
            rw [bits_even (dig N k) HD.out]
            have HS := Lib.hid ((HI.out.stepx HQ.out.1 HQ.out.2.1 HQ.out.2.2 (dig N k) (by rw [HN.out, if_pos he])).drew)
            generalize (wr.setCell ⟨g, X, none⟩ (.int .u8 (dig N k))).drew = W9 at HS ⊢
            go_wp2_with fail
            exact ⟨⟨k + 1, by go_num, by omega, HS.out⟩, by simp [intOf]; omega⟩
          · rw [if_neg he] at c1
            have r2 : ((k : Int) + 1) % 2 = 1 := by omega
            clear ho hn hlt d1 d2 d3 hk hK hX hKH
            go_wp2_with fail
            go_region
            rw [bits_odd (half N 13 k k) (dig N k) (half_lt (by decide)) HD.out]
            have HS := Lib.hid ((HI.out.stepx HQ.out.1 HQ.out.2.1 HQ.out.2.2 (half N 13 k k + 16 * dig N k) (by rw [HN.out, if_neg he])).drew)
            generalize (wr.setCell ⟨g, X, none⟩ (.int .u8 ((half N 13 k k + 16 * dig N k : Nat) : Int))).drew = W9 at HS ⊢
            go_wp2_with fail
            exact ⟨⟨k + 1, by go_num, by omega, HS.out⟩, by simp [intOf]; omega⟩
        · obtain rfl : k = D := by omega
          have cv : (convert 78 9 (.slice (some ⟨g, 0, none⟩) (H + 1) (H + 1))).run Tryd.prog wr = .ok (.string T) wr := by
            have := run_convert_bytes_back wr 78 9 5 ⟨g, 0, none⟩ (H + 1) ((List.range (H + 1)).map fun x => UInt8.ofNat (pbyte N 13 H k x)) Tryd.underlying78 Tryd.underlying5 Tryd.underlying9 (fun j hj => by
              have hj2 : j < H + 1 := by simpa using hj
              have ha : (⟨g, 0, none⟩ : Addr).add j = ⟨g, j, none⟩ := by unfold Addr.add; split <;> simp_all
              rw [ha, cells_at HI.out.r j, pkC_at N 13 H k (by omega)]
              have hb := pbyte_lt (n := N) (s := 13) (H := H) (i := k) (x := j) (by decide)
              simp only [List.getElem_map, List.getElem_range, UInt8.toNat_ofNat']
              congr 2
              omega)
            rw [List.length_map, List.length_range] at this
            rw [PB]
            exact this
          clear PB hlt hk
          go_wp2_with fail
          go_ret2
          exact ⟨rfl, HI.out.bl⟩

end Go.Proofs.YticbjhogdfpdkaaDoor
