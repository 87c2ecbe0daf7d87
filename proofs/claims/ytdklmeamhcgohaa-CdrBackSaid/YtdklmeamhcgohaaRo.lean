/-
  PROVED HERE: what Signed of the reference returns.
-/
import Derived.Test.YtdklmeamhcgohaaRn
import Derived.Test.YtdklmeamhcgohaaRh
namespace Go.Proofs.Ytdklmeamhcgohaa
open Go.RowKit

/-- The bytes as Signed goes through them. -/
def ordL (big : Bool) (l : List UInt8) : List UInt8 := if big then l else l.reverse
theorem ordL_length (big : Bool) (l : List UInt8) : (ordL big l).length = l.length := by cases big <;> simp [ordL]
theorem valU_ord (big : Bool) (l : List UInt8) : valU big l = hiN (ordL big l) := rfl

theorem hiN_step (l : List UInt8) (c : Nat) (h : c < l.length) : hiN (l.take (c + 1)) = hiN (l.take c) * 256 + l[c].toNat := by
  rw [List.take_succ_eq_append_getElem h, hiN_snoc]

theorem or8 (u : Nat) (b : UInt8) (hu : u < 72057594037927936) : bits .or .u64 ((u : Int) * 256) (b.toNat : Int) = ((u * 256 + b.toNat : Nat) : Int) := by
  have hb := b.toNat_lt
  rw [bits_join .u64 64 (by decide) wraps_u64 8 _ _ (by omega) (by omega) (by omega) (by omega) (by omega) (by omega)]
  omega

set_option maxRecDepth 100000 in
set_option maxHeartbeats 1600000 in
theorem signed_loop (s : ByteArray) (big : Bool) (w : World) (k q : Nat) (hk : s.size = k) (hk1 : 1 ≤ k) (hk8 : k ≤ 8) (hq : 64 - 8 * k = q) (n : Int)
    (hn : IntKind.i64.wrap (IntKind.u64.wrap ((valU big (bytesOf s) : Nat) * 2 ^ q)) / 2 ^ q = n) :
    Calls Try.prog 105 #[.string s, .bool big] w fun e w' => e = .returned (.int .i64 n) ∧ w = w' := by
  have HN := Lib.hid hn
  have hll : (ordL big (bytesOf s)).length = k := by rw [ordL_length, bytesOf_length, hk]
  have HLL := Lib.hid hll
  clear hn hll
  go_enter Try.func105, Try.ntmps105
  go_wp2_with fail
  go_loop [5, 11] (fun u v => ∃ c : Nat, v = .int .i64 c ∧ u = .int .u64 (hiN ((ordL big (bytesOf s)).take c) : Nat) ∧ c ≤ k) (fun _ v => k - (intOf v).toNat)
  case atStart => exact ⟨0, rfl, rfl, Nat.zero_le _⟩
  case round =>
    obtain ⟨c, rfl, rfl, hc⟩ := hrel
    by_cases hlt : c < k
    · have hcl : c < (ordL big (bytesOf s)).length := by rw [HLL.out]; exact hlt
      have hst := hiN_step (ordL big (bytesOf s)) c hcl
      have hu := hiN_lt ((ordL big (bytesOf s)).take c)
      rw [List.length_take, HLL.out, Nat.min_eq_left (by omega)] at hu
      have hu7 : (256 : Nat) ^ c ≤ 256 ^ 7 := Nat.pow_le_pow_right (by omega) (by omega)
      obtain ⟨u, hu0⟩ : ∃ u, hiN ((ordL big (bytesOf s)).take c) = u := ⟨_, rfl⟩
      rw [hu0] at hst hu ⊢
      have hu2 : u < 72057594037927936 := by omega
      have hwu : IntKind.u64.wrap ((u : Int) * 256) = (u : Int) * 256 := wraps_u64 _ (by omega) (by omega)
      cases big
      · obtain ⟨r, hr⟩ : ∃ r, k - 1 - c = r := ⟨_, rfl⟩
        have hrl : r < s.size := by omega
        have hb : (ordL false (bytesOf s))[c] = s[r] := by
          have h2 : (ordL false (bytesOf s))[c]? = some s[r] := by
            show (bytesOf s).reverse[c]? = _
            rw [List.getElem?_reverse (by rw [bytesOf_length]; omega), show (bytesOf s).length - 1 - c = r by rw [bytesOf_length]; omega]
            exact byte_at s r hrl
          rw [List.getElem?_eq_getElem hcl] at h2
          exact Option.some.inj h2
        rw [hb] at hst
        have HOR := Lib.hid (or8 u s[r] hu2)
        have HWB : Hid (IntKind.u64.wrap (s[r].toNat : Int) = (s[r].toNat : Int)) := Lib.hid (wraps_u64 _ (by omega) (by have := s[r].toNat_lt; omega))
        have HST := Lib.hid hst
        have e2 : (k : Int) - 1 - c = r := by omega
        clear hst hu hu7 hu0 hr hb
        go_wp2_with fail
        exact ⟨⟨c + 1, by go_num, by rw [HWB.out, HOR.out, HST.out], hlt⟩, by simp [intOf]; omega⟩
      · have hb : (ordL true (bytesOf s))[c] = s[c]'(by omega) := rfl
        rw [hb] at hst
        have HOR := Lib.hid (or8 u (s[c]'(by omega)) hu2)
        have HWB : Hid (IntKind.u64.wrap ((s[c]'(by omega)).toNat : Int) = ((s[c]'(by omega)).toNat : Int)) := Lib.hid (wraps_u64 _ (by omega) (by have := (s[c]'(by omega)).toNat_lt; omega))
        have HST := Lib.hid hst
        clear hst hu hu7 hu0
        go_wp2_with fail
        exact ⟨⟨c + 1, by go_num, by rw [HWB.out, HOR.out, HST.out], hlt⟩, by simp [intOf]; omega⟩
    · obtain rfl : c = k := by omega
      have hall : (ordL big (bytesOf s)).take c = ordL big (bytesOf s) := by rw [List.take_of_length_le]; rw [HLL.out]; exact Nat.le_refl _
      rw [hall, ← valU_ord]
      obtain ⟨U, hU⟩ : ∃ U, valU big (bytesOf s) = U := ⟨_, rfl⟩
      rw [hU] at HN ⊢
      have hq2 : (64 : Int) - 8 * c = q := by omega
      have hq64 : q < 64 := by omega
      clear hall hU
      go_wp2_with fail
      go_ret
      exact ⟨ret_int (by rw [← HN.out, IntWalk.i64_left]), rfl⟩

theorem sg_shift2 (u : Nat) (_h : u < 256 ^ 2) : IntKind.i64.wrap (IntKind.u64.wrap ((u : Int) * 2 ^ 48)) / 2 ^ 48 = sgN 2 u := by
  rw [IntKind.wrap_u64, IntKind.wrap_i64, show sgN 2 u = IntKind.i16.wrap (u : Int) from rfl]
  simp only [IntKind.wrap, IntKind.bits, IntKind.signed]
  simp
  omega
theorem sg_shift4 (u : Nat) (_h : u < 256 ^ 4) : IntKind.i64.wrap (IntKind.u64.wrap ((u : Int) * 2 ^ 32)) / 2 ^ 32 = sgN 4 u := by
  rw [IntKind.wrap_u64, IntKind.wrap_i64, show sgN 4 u = IntKind.i32.wrap (u : Int) from rfl]
  simp only [IntKind.wrap, IntKind.bits, IntKind.signed]
  simp
  omega
theorem sg_shift8 (u : Nat) (h : u < 256 ^ 8) : IntKind.i64.wrap (IntKind.u64.wrap ((u : Int) * 2 ^ 0)) / 2 ^ 0 = sgN 8 u := by
  rw [IntKind.wrap_u64, show sgN 8 u = IntKind.i64.wrap (u : Int) from rfl]
  have h1 : (u : Int) * 2 ^ 0 % 18446744073709551616 = u := by omega
  rw [h1]
  simp

theorem signed_any (s : ByteArray) (big : Bool) (w : World) (k : Nat) (hk : s.size = k) (hkk : k = 2 ∨ k = 4 ∨ k = 8) :
    Calls Try.prog 105 #[.string s, .bool big] w fun e w' => e = .returned (.int .i64 (sgN k (valU big (bytesOf s)))) ∧ w = w' := by
  have hv := valU_lt big (bytesOf s)
  rw [bytesOf_length, hk] at hv
  rcases hkk with rfl | rfl | rfl
  · exact signed_loop s big w 2 48 hk (by omega) (by omega) rfl _ (sg_shift2 _ hv)
  · exact signed_loop s big w 4 32 hk (by omega) (by omega) rfl _ (sg_shift4 _ hv)
  · exact signed_loop s big w 8 0 hk (by omega) (by omega) rfl _ (sg_shift8 _ hv)

end Go.Proofs.Ytdklmeamhcgohaa
