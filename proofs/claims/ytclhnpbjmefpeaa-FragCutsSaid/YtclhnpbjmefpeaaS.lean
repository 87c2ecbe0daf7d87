/- The contract of the reference's Join. -/
import Derived.Test.YtclhnpbjmefpeaaR
namespace Go.Proofs.Ytclhnpbjmefpeaa
open Go.RowKit Go.BigFrame

/-- What Join returns. -/
def jnE (l : List Pc) : Int := if okL l = true then joinE l else 1
def jnI (l : List Pc) : Int := if jnE l = 0 then idOf l else 0
def jnB (l : List Pc) : ByteArray := if jnE l = 0 then catB l else ⟨#[]⟩
def JnPost (w : World) (l : List Pc) (e : Ending) (w' : World) : Prop := e = .returned (.tuple #[.int .i64 (jnI l), .string (jnB l), .int .i64 (jnE l)]) ∧ Below w.heap.size w w'
theorem JnPost.bad {w w' : World} {l : List Pc} {e : Ending} {n : Int} (hn : jnE l = n) (h0 : n ≠ 0) (he : e = .returned (.tuple #[.int .i64 0, .string ⟨#[]⟩, .int .i64 n])) (hb : Below w.heap.size w w') : JnPost w l e w' := by
  subst hn
  exact ⟨by rw [he, jnI, jnB, if_neg h0, if_neg h0], hb⟩
theorem JnPost.good {w w' : World} {l : List Pc} {e : Ending} (hn : jnE l = 0) (he : e = .returned (.tuple #[.int .i64 (idOf l), .string (catB l), .int .i64 0])) (hb : Below w.heap.size w w') : JnPost w l e w' :=
  ⟨by rw [he, jnI, jnB, if_pos hn, if_pos hn, hn], hb⟩
theorem jnE_bad {l : List Pc} (h : okL l = false) : jnE l = 1 := by unfold jnE; rw [if_neg (by rw [h]; decide)]
theorem jnE_ok {l : List Pc} (h : okL l = true) : jnE l = joinE l := by unfold jnE; rw [if_pos h]
theorem jnI_ok {l : List Pc} (h : okL l = true) : jnI l = joinI l := by unfold jnI joinI; rw [jnE_ok h]
theorem jnB_ok {l : List Pc} (h : okL l = true) : jnB l = joinB l := by unfold jnB joinB; rw [jnE_ok h]
theorem okL_len {l : List Pc} (h : okL l = true) : l.length ≤ 2000 := by
  simp only [okL, Bool.and_eq_true, decide_eq_true_eq] at h
  exact h.1
theorem okL_all {l : List Pc} (h : okL l = true) : allV l = true := by
  simp only [okL, Bool.and_eq_true, decide_eq_true_eq] at h
  exact h.2

theorem catB_take_le {l : List Pc} (h : ∀ p ∈ l, vP p = true) : ∀ k, k ≤ l.length → (catB (l.take k)).size ≤ 65536 * k
  | 0, _ => Nat.zero_le _
  | k + 1, hk => by
    have h1 := catB_take_le h k (by omega)
    have h2 := vP_body (h _ (List.getElem_mem (show k < l.length by omega)))
    rw [catB_take_size (by omega)]
    omega

structure R1 (w : World) (l : List Pc) (x : Int) (d i : Value) (wr : World) : Prop where
  out : ∃ k : Nat, d = .string ⟨#[]⟩ ∧ i = .int .i64 k ∧ k ≤ l.length ∧ sameTo l x k ∧ Below w.heap.size w wr
structure R2 (w : World) (l : List Pc) (d n i : Value) (wr : World) : Prop where
  out : ∃ k : Nat, d = .string ⟨#[]⟩ ∧ n = .int .i64 ((catB (l.take k)).size : Nat) ∧ i = .int .i64 k ∧ k ≤ l.length ∧ ordN l k = true ∧ (catB (l.take k)).size ≤ 65536 * k ∧ Below w.heap.size w wr
structure R3 (w : World) (l : List Pc) (d i : Value) (wr : World) : Prop where
  out : ∃ k : Nat, d = .string (catB (l.take k)) ∧ i = .int .i64 k ∧ k ≤ l.length ∧ Below w.heap.size w wr

set_option maxRecDepth 100000 in
set_option maxHeartbeats 4000000 in
theorem rjoin_any (ao : Option Addr) (cap : Nat) (l : List Pc) (w : World) (h : RowAt w ao l) (hl : l.length ≤ 9223372036854775806) :
    Calls Try.prog 17 #[.slice ao l.length cap] w (JnPost w l) := by
  have AV := Lib.hid (rpieces_any ao cap l w h hl)
  cases hok : okL l
  · have HE := Lib.hid (jnE_bad hok)
    rw [hok] at AV
    clear h hl hok
    go_enter Try.func17, Try.ntmps17
    go_wp2_with (go_at_call 33; refine AV.out.mono ?_; rintro e w1 ⟨rfl, hb1⟩; have B1 := Lib.hid hb1; clear hb1)
    go_ret3
    exact JnPost.bad HE.out (by decide) rfl B1.out
  have hJ := jnE_ok hok
  rw [hok] at AV
  have hl2 := okL_len hok
  have hv := okL_all hok
  clear hl
  by_cases h0 : l.length = 0
  · have HE := Lib.hid (hJ.trans (joinE_empty h0))
    have e1 : decide ((l.length : Int) = 0) = true := decide_eq_true (by omega)
    have e2 : (l.length : Int) = 0 := by omega
    clear h hl2 hv h0 hJ hok
    go_enter Try.func17, Try.ntmps17
    go_wp2_with (go_at_call 33; refine AV.out.mono ?_; rintro e w1 ⟨rfl, hb1⟩; have B1 := Lib.hid hb1; clear hb1)
    go_ret3
    exact JnPost.bad HE.out (by decide) rfl B1.out
  rcases h with h1 | ⟨b, off, rfl, hb, hp⟩
  · subst h1; exact absurd rfl h0
  have hpos : 0 < l.length := by omega
  obtain ⟨x, hx⟩ : ∃ x, idOf l = x := ⟨_, rfl⟩
  have c00 : w.cell? ⟨b, off, none⟩ = some (.int .i64 x) := by
    have := (hp 0 hpos).1
    rw [Nat.zero_mul, Nat.add_zero] at this
    rw [this, ← hx, idOf_at hpos]
  have e1 : decide ((l.length : Int) = 0) = false := decide_eq_false (by omega)
  have e2 : ¬ (l.length : Int) = 0 := by omega
  have e3 : (0 : Int) < (l.length : Int) := by omega
  have HP := Lib.hid hp
  have HB0 := Lib.hid hb
  have HL := Lib.hid hl2
  have HV := Lib.hid (allV_at hv)
  have HX := Lib.hid hx
  have H0 := Lib.hid h0
  have HJ := Lib.hid hJ
  have C00 : Hid (∀ W, Below w.heap.size w W → W.cell? ⟨b, off, none⟩ = some (.int .i64 x)) := Lib.hid fun W hW => (hW.cell hb).trans c00
  have hw : wrap64 ((l.length : Int) - 1) = (l.length : Int) - 1 := Go.IntWalk.wrap64_in _ (by omega)
  clear hp hb hl2 hv hx hpos h0 hJ hok c00
  go_enter Try.func17, Try.ntmps17
  go_wp2_with (go_at_call 33; refine AV.out.mono ?_; rintro e w1 ⟨rfl, hb1⟩; have B1 := Lib.hid hb1; clear hb1)
  go_loopw [3, 20] (fun d i wr => R1 w l x d i wr) (fun _ i _ => l.length - (intOf i).toNat)
  case atStart => exact ⟨0, rfl, rfl, Nat.zero_le _, (fun i h => absurd h (Nat.not_lt_zero i)), B1.out⟩
  case round =>
    obtain ⟨k, rfl, rfl, hk, hsame, hbel⟩ := hrel.out
    clear hrel
    have HS := Lib.hid hsame
    have HT := Lib.hid hbel
    clear hsame hbel
    by_cases hlt : k < l.length
    · obtain ⟨c0, c1, c2, c3⟩ := (HP.out.below HT.out HB0.out) k hlt
      have HBAD := Lib.hid fun h9 => same_bad hlt h9
      obtain ⟨p, hpp⟩ : ∃ p, l[k] = p := ⟨_, rfl⟩
      rw [hpp] at c0 c1 c2 c3 HBAD
      obtain ⟨pi, pl, m, bd⟩ := p
      simp only at c0 c1 c2 c3 HBAD
      have HPP := Lib.hid hpp
      have HLT := Lib.hid hlt
      have hk1 : (k : Int) < (l.length : Int) := by omega
      have hk2 : (k : Int) + 1 ≤ 2000 := by have := HL.out; omega
      have hk0 : (0 : Int) ≤ (k : Int) := by omega
      have HA : Hid (Below wr.heap.size wr (wr.alloc (pcO pi pl m bd))) := Lib.hid ((Below.refl _ _).alloc (Nat.le_refl _) _)
      have HT2 := Lib.hid (HT.out.trans (HA.out.mono HT.out.size))
      have ca : (wr.alloc (Obj.cells #[Value.int IntKind.i64 pi, Value.int IntKind.i64 pl, Value.bool m, Value.string bd] 36)).cell? ⟨b, off, none⟩ = some (.int .i64 x) := C00.out _ HT2.out
      clear hpp
      by_cases hid : pi = x
      · subst hid
        have HSN : Hid (sameTo l pi (k + 1)) := Lib.hid (HS.out.snoc fun _ => by rw [HPP.out])
        go_wp2_with fail
        go_quiet (fail)
        go_wp2_with fail
        first | exact ⟨⟨k + 1, rfl, by go_num, HLT.out, HSN.out, HT2.out.trans ((below_drewN' _ _).mono HT2.out.size)⟩, by simp [intOf]; have := HLT.out; omega⟩ | exact ⟨⟨_, _, _, _, _, ⟨k + 1, rfl, by go_num, HLT.out, HSN.out, HT2.out.trans ((below_drewN' _ _).mono HT2.out.size)⟩, rfl, rfl, rfl, rfl, rfl⟩, by simp [intOf]; have := HLT.out; omega⟩
      · have ei : decide (pi = x) = false := decide_eq_false hid
        have HE : Hid (jnE l = 10) := Lib.hid (HJ.out.trans (joinE_kind H0.out (HBAD.out (by rw [HX.out]; exact hid))))
        go_wp2_with fail
        go_quiet (fail)
        go_wp2_with fail
        go_ret3
        exact JnPost.bad HE.out (by decide) rfl (HT2.out.trans ((below_drewN' _ _).mono HT2.out.size))
    · obtain rfl : k = l.length := by omega
      have HSA : Hid (sameL l = true) := Lib.hid (same_all (by rw [HX.out]; exact HS.out))
      clear hlt hk
      go_wp2_with fail
      go_loopw [3, 7, 34] (fun d n i wr => R2 w l d n i wr) (fun _ _ i _ => l.length - (intOf i).toNat)
      case atStart => exact ⟨0, rfl, rfl, rfl, Nat.zero_le _, rfl, Nat.zero_le _, HT.out⟩
      case round =>
        rename_i wr0
        obtain ⟨k, rfl, rfl, rfl, hk, hod, hsz, hbel⟩ := hrel.out
        clear hrel HS HT
        have HO := Lib.hid hod
        have HSZ := Lib.hid hsz
        have HT := Lib.hid hbel
        obtain ⟨tot, htot⟩ : ∃ tot, (catB (l.take k)).size = tot := ⟨_, rfl⟩
        rw [htot]
        rw [htot] at HSZ
        have HTOT := Lib.hid htot
        clear hod hsz hbel htot
        by_cases hlt : k < l.length
        · obtain ⟨c0, c1, c2, c3⟩ := (HP.out.below HT.out HB0.out) k hlt
          have HN : Hid (ordN l (k + 1) = okAt l k) := Lib.hid (by rw [ordN, HO.out, Bool.true_and])
          have HOK := Lib.hid (okAt_at hlt)
          have HVP := Lib.hid (HV.out _ (List.getElem_mem hlt))
          have HTS := Lib.hid (catB_take_size hlt)
          obtain ⟨p, hpp⟩ : ∃ p, l[k] = p := ⟨_, rfl⟩
          rw [hpp] at c0 c1 c2 c3 HOK HVP HTS
          obtain ⟨pi, pl, m, bd⟩ := p
          simp only at c0 c1 c2 c3 HOK HTS
          rw [HTOT.out] at HTS
          have HLT := Lib.hid hlt
          have HBD := Lib.hid (vP_body HVP.out)
          have hk1 : (k : Int) < (l.length : Int) := by omega
          have hk2 : (k : Int) + 1 ≤ 2000 := by have := HL.out; omega
          have hk0 : (0 : Int) ≤ (k : Int) := by omega
          have ht1 : (tot : Int) + (bd.size : Int) ≤ 1000000000 := by have := HSZ.out; have := HL.out; have := HBD.out; simp only at this; omega
          have HA : Hid (Below wr.heap.size wr (wr.alloc (pcO pi pl m bd))) := Lib.hid ((Below.refl _ _).alloc (Nat.le_refl _) _)
          have HT2 := Lib.hid (HT.out.trans (HA.out.mono HT.out.size))
          have HT3 : Hid ((catB (l.take (k + 1))).size ≤ 65536 * (k + 1)) := Lib.hid (by have := HSZ.out; have := HBD.out; simp only at this; rw [HTS.out]; omega)
          have HE9 : Hid (okAt l k = false → jnE l = 9) := Lib.hid fun h9 => HJ.out.trans (joinE_state H0.out HSA.out (ordN_false (k := k + 1) (by rw [HN.out]; exact h9) _ (by omega)))
          clear hpp hlt hk
          by_cases hpl : pl = (k : Int)
          · subst hpl
            by_cases h9 : (k : Int) < (l.length : Int) - 1
            · have e9 : decide ((k : Int) < (l.length : Int) - 1) = true := decide_eq_true h9
              rw [e9] at HOK
              cases m
              · go_wp2_with fail
                go_ret3
                exact JnPost.bad (HE9.out (by rw [HOK.out]; simp)) (by decide) rfl HT2.out
              · go_wp2_with fail
                first | exact ⟨⟨k + 1, rfl, by rw [HTS.out]; go_num, by go_num, HLT.out, by rw [HN.out, HOK.out]; simp, HT3.out, HT2.out⟩, by simp [intOf]; have := HLT.out; omega⟩ | exact ⟨⟨_, _, _, _, _, _, _, ⟨k + 1, rfl, by rw [HTS.out]; go_num, by go_num, HLT.out, by rw [HN.out, HOK.out]; simp, HT3.out, HT2.out⟩, rfl, rfl, rfl, rfl, rfl, rfl, rfl⟩, by simp [intOf]; have := HLT.out; omega⟩
            · have e9 : decide ((k : Int) < (l.length : Int) - 1) = false := decide_eq_false h9
              rw [e9] at HOK
              cases m
              · go_wp2_with fail
                first | exact ⟨⟨k + 1, rfl, by rw [HTS.out]; go_num, by go_num, HLT.out, by rw [HN.out, HOK.out]; simp, HT3.out, HT2.out⟩, by simp [intOf]; have := HLT.out; omega⟩ | exact ⟨⟨_, _, _, _, _, _, _, ⟨k + 1, rfl, by rw [HTS.out]; go_num, by go_num, HLT.out, by rw [HN.out, HOK.out]; simp, HT3.out, HT2.out⟩, rfl, rfl, rfl, rfl, rfl, rfl, rfl⟩, by simp [intOf]; have := HLT.out; omega⟩
              · go_wp2_with fail
                go_ret3
                exact JnPost.bad (HE9.out (by rw [HOK.out]; simp)) (by decide) rfl HT2.out
          · have ep : decide (pl = (k : Int)) = false := decide_eq_false hpl
            go_wp2_with fail
            go_ret3
            exact JnPost.bad (HE9.out (by rw [HOK.out, ep, Bool.false_and])) (by decide) rfl HT2.out
        · obtain rfl : k = l.length := by omega
          clear hlt hk
          have HTT : Hid ((catB l).size = tot) := Lib.hid (by have := HTOT.out; rw [List.take_length] at this; exact this)
          by_cases hs : 65536 < tot
          · have HE : Hid (jnE l = 4) := Lib.hid (HJ.out.trans (joinE_limit H0.out HSA.out HO.out (by rw [HTT.out]; exact hs)))
            have es : (65536 : Int) < (tot : Int) := by omega
            have es2 : decide ((65536 : Int) < (tot : Int)) = true := decide_eq_true es
            clear hs
            go_wp2_with fail
            go_ret3
            exact JnPost.bad HE.out (by decide) rfl HT.out
          · have HE : Hid (jnE l = 0) := Lib.hid (HJ.out.trans (joinE_ok H0.out HSA.out HO.out (by rw [HTT.out]; exact hs)))
            have es : ¬ (65536 : Int) < (tot : Int) := by omega
            have es2 : decide ((65536 : Int) < (tot : Int)) = false := decide_eq_false es
            clear hs
            go_wp2_with fail
            go_loopw [3, 63] (fun d i wr => R3 w l d i wr) (fun _ i _ => l.length - (intOf i).toNat)
            case atStart => exact ⟨0, rfl, rfl, Nat.zero_le _, HT.out⟩
            case round =>
              obtain ⟨k, rfl, rfl, hk, hbel⟩ := hrel.out
              clear hrel HT
              have HT := Lib.hid hbel
              obtain ⟨s, hs⟩ : ∃ s, catB (l.take k) = s := ⟨_, rfl⟩
              rw [hs]
              have HSS := Lib.hid hs
              clear hbel hs
              by_cases hlt : k < l.length
              · obtain ⟨c0, c1, c2, c3⟩ := (HP.out.below HT.out HB0.out) k hlt
                have HTS := Lib.hid (catB_take hlt)
                obtain ⟨p, hpp⟩ : ∃ p, l[k] = p := ⟨_, rfl⟩
                rw [hpp] at c0 c1 c2 c3 HTS
                obtain ⟨pi, pl, m, bd⟩ := p
                simp only at c0 c1 c2 c3 HTS
                rw [HSS.out] at HTS
                have hcs : ¬ 9223372036854775807 < s.size + bd.size := by
                  have h1 := catB_take_le HV.out k hk
                  have h2 := vP_body (HV.out _ (List.getElem_mem hlt))
                  rw [hpp] at h2
                  rw [HSS.out] at h1
                  simp only at h2
                  have := HL.out
                  omega
                have HLT := Lib.hid hlt
                have hk1 : (k : Int) < (l.length : Int) := by omega
                have hk2 : (k : Int) + 1 ≤ 2000 := by have := HL.out; omega
                have hk0 : (0 : Int) ≤ (k : Int) := by omega
                have HA : Hid (Below wr.heap.size wr (wr.alloc (pcO pi pl m bd))) := Lib.hid ((Below.refl _ _).alloc (Nat.le_refl _) _)
                have HT2 := Lib.hid (HT.out.trans (HA.out.mono HT.out.size))
                clear hpp hlt hk
                go_wp2_with fail
                first | exact ⟨⟨k + 1, by rw [HTS.out], by go_num, HLT.out, HT2.out⟩, by simp [intOf]; have := HLT.out; omega⟩ | exact ⟨⟨_, _, _, _, ⟨k + 1, by rw [HTS.out], by go_num, HLT.out, HT2.out⟩, rfl, rfl, rfl, rfl⟩, by simp [intOf]; have := HLT.out; omega⟩
              · obtain rfl : k = l.length := by omega
                have HG : Hid (catB l = s) := Lib.hid (by have := HSS.out; rw [List.take_length] at this; exact this)
                have ca : wr.cell? ⟨b, off, none⟩ = some (.int .i64 x) := C00.out _ HT.out
                clear hlt hk
                go_wp2_with fail
                go_ret3
                exact JnPost.good HE.out (by rw [HX.out, HG.out]; rfl) HT.out

end Go.Proofs.Ytclhnpbjmefpeaa
