/- text. -/
import Derived.Test.YticbjhogdfpdkaaDoorV
import Derived.Test.YticbjhogdfpdkaaDoorUb
namespace Go.Proofs.YticbjhogdfpdkaaDoor
set_option maxRecDepth 8000
open Go.RowKit Go.Shelf

/-- Between two digits: the number's variable, the builder behind it. -/
structure TxI (w : World) (n : Nat) (s : Int) (b : Bool) (l : List UInt8) (W : World) : Prop where
  a : NumAt W w.heap.size n s b
  o : Lib.IsBuilder 101 5 (w.heap.size + 1) (w.heap.size + 1) (Lib.byteCells l) W
  bl : Below w.heap.size w W
  sz : w.heap.size + 1 ≤ W.heap.size
theorem TxI.later {w : World} {n : Nat} {s : Int} {b : Bool} {l l' : List UInt8} {W W' : World} (h : TxI w n s b l W) (ho : Lib.IsBuilder 101 5 (w.heap.size + 1) (w.heap.size + 1) (Lib.byteCells l ++ Lib.byteCells l') W') (hb : Below (w.heap.size + 1) W W') : TxI w n s b (l ++ l') W' :=
  ⟨(hb.block _ (by omega)).trans h.a, by rw [Lib.byteCells_append]; exact ho, h.bl.trans (hb.mono (by omega)), Nat.le_trans h.sz hb.size⟩
theorem TxI.start (w : World) (n : Nat) (s : Int) (b : Bool) : TxI w n s b [] ((w.alloc (.cells (nC n s b) 45)).alloc (.cells #[.pointer none, .slice none 0 0] 101)) :=
  ⟨old_block _ _ _ _ (at_block _ _ _ rfl), .inl ⟨Nat.le_refl _, .slice none 0 0, at_block _ _ _ (by simp), World.ownsRow_nil _ _ _ _, by simp [Value.ownBlock]⟩, ((Below.refl _ _).alloc (Nat.le_refl _) _).alloc (by simp) _, by simp⟩
theorem TxI.drew {w : World} {n : Nat} {s : Int} {b : Bool} {l : List UInt8} {W : World} (h : TxI w n s b l W) (k : Nat) : TxI w n s b l (W.drewN k) :=
  ⟨h.a, h.o, h.bl.trans ((below_drewN' W k).mono (by have := h.sz; omega)), h.sz⟩
theorem one_byte (d : Nat) (h : d < 10) : [Value.int .u8 (48 + (d : Int))] = Lib.byteCells [ch d] := by
  simp only [Lib.byteCells, List.map_cons, List.map_nil, ch_nat h]
  rfl

set_option maxRecDepth 100000 in
set_option maxHeartbeats 8000000 in
theorem text_any (n s : Nat) (b : Bool) (w : World) (hn : n < 10 ^ 128) (hs : s ≤ 127) :
    Calls Tryd.prog 70 #[.agg (nC n s b)] w fun e w' => e = .returned (.string (txt b n s)) ∧ Below w.heap.size w w' := by
  have HS := Lib.hid (TxI.start w n s b)
  have g1 := HS.out.a.sign
  have ZR := Lib.hid fun wx (h : DigAt wx w.heap.size n) => zero_any w.heap.size n wx h hn
  have LN := Lib.hid fun wx (h : DigAt wx w.heap.size n) => length_any w.heap.size n wx h
  have WB := Lib.hid fun wx (l : List UInt8) (h : TxI w n s b l wx) (hl : l.length ≤ 100000) (c : Int) => wbyte_any (w.heap.size + 1) (w.heap.size + 1) (Lib.byteCells l) c wx h.o (by rw [Lib.byteCells_length]; exact hl) h.sz
  have ST := Lib.hid fun wx (l : List UInt8) (h : TxI w n s b l wx) => Tryd.Builder_String_any (w.heap.size + 1) (w.heap.size + 1) l wx h.o h.sz
  obtain ⟨T, hT⟩ : ∃ T, top n s = T := ⟨_, rfl⟩
  have hT1 : max (digs n) (s + 1) = T := hT
  have hT2 : T ≤ 128 := by have := (digs_le n).2; omega
  have hT3 : 1 ≤ T := by omega
  have TX : ∀ l, l = (if b = true ∧ n ≠ 0 then [45] else []) ++ tF n s T → (⟨l.toArray⟩ : ByteArray) = txt b n s := fun l hl => by
    subst hl
    unfold txt txtL
    rw [hT]
  obtain ⟨z, hz⟩ : ∃ z, txt b n s = z := ⟨_, rfl⟩
  rw [hz] at TX ⊢
  have TX := Lib.hid TX
  have hTi : max (digs n : Int) ((s : Int) + 1) = (T : Int) := by omega
  clear hn hT hz hT1
  go_enter Tryd.func70, Tryd.ntmps70
  cases b
  · have TP := Lib.hid (show ∀ l, l = [] ++ tF n s T → (⟨l.toArray⟩ : ByteArray) = z from fun l hl => TX.out l (by rw [hl, if_neg (by simp)]))
    have HP : Hid (([] : List UInt8).length ≤ 1) := Lib.hid (by decide)
    clear TX
    go_wp2_with fail
    generalize (w.alloc (.cells (nC n s false) 45)).alloc (.cells #[.pointer none, .slice none 0 0] 101) = W5 at HS ⊢
    have g2 := HS.out.a.scale
    have LQ := Lib.hid fun k => Calls.quiet_of_same (n := k) ((LN.out (W5.drewN k) (HS.out.a.dig.same rfl)).mono fun _ _ h => ⟨h.1, h.2.symm⟩)
    go_quiet ((go_at_call 92; exact LQ.out _))
    have HS := Lib.hid (HS.out.drew nq)
    generalize W5.drewN nq = W6 at HS ⊢
    clear g2 LQ LN ZR g1 hTi
    go_wp2_with fail
    go_loopw [4] (fun i wr => ∃ (k : Nat) (l : List UInt8), i = .int .i64 ((k : Int) - 1) ∧ k ≤ T ∧ TxI w n s false l wr ∧ l.length + 2 * k ≤ 300 ∧ ∀ l', l' = l ++ tF n s k → (⟨l'.toArray⟩ : ByteArray) = z) (fun i _ => (intOf i + 1).toNat)
    case atStart => exact ⟨T, _, rfl, Nat.le_refl _, HS.out, by have := HP.out; omega, TP.out⟩
    case round =>
      obtain ⟨k, l, rfl, hk, hi, hl, hz⟩ := hrel
      have HL := Lib.hid hl
      have HZ := Lib.hid hz
      have HI := Lib.hid hi
      clear hl hz hi
      by_cases h0 : k = 0
      · subst h0
        go_wp2_with (go_at_call 95; refine (ST.out _ _ HI.out).mono ?_; rintro e w9 ⟨rfl, hb9⟩)
        go_ret
        exact ⟨by rw [HZ.out l (by simp [tF])]; rfl, HI.out.bl.trans (hb9.mono (by omega))⟩
      · obtain ⟨j, rfl⟩ : ∃ j, k = j + 1 := ⟨k - 1, by omega⟩
        rw [show (((j + 1 : Nat) : Int) - 1) = (j : Int) by omega]
        have HK := Lib.hid hk
        have c0 := HI.out.a.dig j (by omega)
        have hd := dig_lt n j
        have HT : Hid (tF n s (j + 1) = ch (dig n j) :: (if j = s ∧ 0 < j then 46 :: tF n s j else tF n s j)) := Lib.hid rfl
        obtain ⟨d, hdd⟩ : ∃ d, dig n j = d := ⟨_, rfl⟩
        rw [hdd] at c0 hd HT
        have e2 : IntKind.u8.wrap (48 + (d : Int)) = 48 + (d : Int) := by rw [IntKind.wrap_u8]; omega
        have p0 : (0 : Int) ≤ (j : Int) := by omega
        have p1 : (j : Int) < 128 := by omega
        have HD := Lib.hid hd
        clear hdd hk hd h0
        by_cases hjs : j = s
        · obtain rfl := hjs
          by_cases h1 : 0 < j
          · have h2 : (0 : Int) < (j : Int) := by omega
            have HT2 : Hid (tF n j (j + 1) = ch d :: 46 :: tF n j j) := Lib.hid (by rw [HT.out, if_pos ⟨rfl, h1⟩])
            clear h1
            go_wp2_with (first | (go_at_call 94; refine (WB.out _ _ HJ.out (by have := HL.out; simp only [List.length_append, List.length_cons, List.length_nil]; omega) 46).mono ?_; rintro e w9 ⟨rfl, ho9, hb9⟩; have HM := Lib.hid (HJ.out.later (l' := [46]) ho9 hb9); clear ho9 hb9) | (go_at_call 94; refine (WB.out _ _ HI.out (by have := HL.out; omega) (48 + (d : Int))).mono ?_; rintro e w8 ⟨rfl, ho8, hb8⟩; rw [one_byte d HD.out] at ho8; have HJ := Lib.hid (HI.out.later (l' := [ch d]) ho8 hb8); have c8 := HJ.out.a.scale; clear ho8 hb8))
            refine ⟨⟨j, _, by go_num, by have := HK.out; omega, HM.out, by have := HL.out; simp only [List.length_append, List.length_cons, List.length_nil]; omega, fun l' hl' => HZ.out l' (by rw [hl', HT2.out]; simp)⟩, by simp [intOf]⟩
          · have h2 : ¬ (0 : Int) < (j : Int) := by omega
            have HT2 : Hid (tF n j (j + 1) = ch d :: tF n j j) := Lib.hid (by rw [HT.out, if_neg (fun g => h1 g.2)])
            clear h1
            go_wp2_with (go_at_call 94; refine (WB.out _ _ HI.out (by have := HL.out; omega) (48 + (d : Int))).mono ?_; rintro e w8 ⟨rfl, ho8, hb8⟩; rw [one_byte d HD.out] at ho8; have HJ := Lib.hid (HI.out.later (l' := [ch d]) ho8 hb8); have c8 := HJ.out.a.scale; clear ho8 hb8)
            refine ⟨⟨j, _, by go_num, by have := HK.out; omega, HJ.out, by have := HL.out; simp only [List.length_append, List.length_cons, List.length_nil]; omega, fun l' hl' => HZ.out l' (by rw [hl', HT2.out]; simp)⟩, by simp [intOf]⟩
        · have h2 : ¬ (j : Int) = (s : Int) := by omega
          have h3 : ((j : Int) == (s : Int)) = false := beq_false_of_ne h2
          have HT2 : Hid (tF n s (j + 1) = ch d :: tF n s j) := Lib.hid (by rw [HT.out, if_neg (fun g => hjs g.1)])
          clear h2
          go_wp2_with (go_at_call 94; refine (WB.out _ _ HI.out (by have := HL.out; omega) (48 + (d : Int))).mono ?_; rintro e w8 ⟨rfl, ho8, hb8⟩; rw [one_byte d HD.out] at ho8; have HJ := Lib.hid (HI.out.later (l' := [ch d]) ho8 hb8); have c8 := HJ.out.a.scale; clear ho8 hb8)
          refine ⟨⟨j, _, by go_num, by have := HK.out; omega, HJ.out, by have := HL.out; simp only [List.length_append, List.length_cons, List.length_nil]; omega, fun l' hl' => HZ.out l' (by rw [hl', HT2.out]; simp)⟩, by simp [intOf]⟩
  · by_cases h0 : n = 0
    · have TP := Lib.hid (show ∀ l, l = [] ++ tF n s T → (⟨l.toArray⟩ : ByteArray) = z from fun l hl => TX.out l (by rw [hl, if_neg (by simp [h0])]))
      have HP : Hid (([] : List UInt8).length ≤ 1) := Lib.hid (by decide)
      have e0 : decide (n = 0) = true := decide_eq_true h0
      clear TX h0
      go_wp2_with (go_at_call 40; refine (ZR.out _ HS.out.a.dig).mono ?_; rintro e wx ⟨rfl, rfl⟩)
      generalize (w.alloc (.cells (nC n s true) 45)).alloc (.cells #[.pointer none, .slice none 0 0] 101) = W5 at HS ⊢
      have g2 := HS.out.a.scale
      have LQ := Lib.hid fun k => Calls.quiet_of_same (n := k) ((LN.out (W5.drewN k) (HS.out.a.dig.same rfl)).mono fun _ _ h => ⟨h.1, h.2.symm⟩)
      go_quiet ((go_at_call 92; exact LQ.out _))
      have HS := Lib.hid (HS.out.drew nq)
      generalize W5.drewN nq = W6 at HS ⊢
      clear g2 LQ LN ZR g1 hTi
      go_wp2_with fail
      go_loopw [4] (fun i wr => ∃ (k : Nat) (l : List UInt8), i = .int .i64 ((k : Int) - 1) ∧ k ≤ T ∧ TxI w n s true l wr ∧ l.length + 2 * k ≤ 300 ∧ ∀ l', l' = l ++ tF n s k → (⟨l'.toArray⟩ : ByteArray) = z) (fun i _ => (intOf i + 1).toNat)
      case atStart => exact ⟨T, _, rfl, Nat.le_refl _, HS.out, by have := HP.out; omega, TP.out⟩
      case round =>
        obtain ⟨k, l, rfl, hk, hi, hl, hz⟩ := hrel
        have HL := Lib.hid hl
        have HZ := Lib.hid hz
        have HI := Lib.hid hi
        clear hl hz hi
        by_cases h0 : k = 0
        · subst h0
          go_wp2_with (go_at_call 95; refine (ST.out _ _ HI.out).mono ?_; rintro e w9 ⟨rfl, hb9⟩)
          go_ret
          exact ⟨by rw [HZ.out l (by simp [tF])]; rfl, HI.out.bl.trans (hb9.mono (by omega))⟩
        · obtain ⟨j, rfl⟩ : ∃ j, k = j + 1 := ⟨k - 1, by omega⟩
          rw [show (((j + 1 : Nat) : Int) - 1) = (j : Int) by omega]
          have HK := Lib.hid hk
          have c0 := HI.out.a.dig j (by omega)
          have hd := dig_lt n j
          have HT : Hid (tF n s (j + 1) = ch (dig n j) :: (if j = s ∧ 0 < j then 46 :: tF n s j else tF n s j)) := Lib.hid rfl
          obtain ⟨d, hdd⟩ : ∃ d, dig n j = d := ⟨_, rfl⟩
          rw [hdd] at c0 hd HT
          have e2 : IntKind.u8.wrap (48 + (d : Int)) = 48 + (d : Int) := by rw [IntKind.wrap_u8]; omega
          have p0 : (0 : Int) ≤ (j : Int) := by omega
          have p1 : (j : Int) < 128 := by omega
          have HD := Lib.hid hd
          clear hdd hk hd h0
          by_cases hjs : j = s
          · obtain rfl := hjs
            by_cases h1 : 0 < j
            · have h2 : (0 : Int) < (j : Int) := by omega
              have HT2 : Hid (tF n j (j + 1) = ch d :: 46 :: tF n j j) := Lib.hid (by rw [HT.out, if_pos ⟨rfl, h1⟩])
              clear h1
              go_wp2_with (first | (go_at_call 94; refine (WB.out _ _ HJ.out (by have := HL.out; simp only [List.length_append, List.length_cons, List.length_nil]; omega) 46).mono ?_; rintro e w9 ⟨rfl, ho9, hb9⟩; have HM := Lib.hid (HJ.out.later (l' := [46]) ho9 hb9); clear ho9 hb9) | (go_at_call 94; refine (WB.out _ _ HI.out (by have := HL.out; omega) (48 + (d : Int))).mono ?_; rintro e w8 ⟨rfl, ho8, hb8⟩; rw [one_byte d HD.out] at ho8; have HJ := Lib.hid (HI.out.later (l' := [ch d]) ho8 hb8); have c8 := HJ.out.a.scale; clear ho8 hb8))
              refine ⟨⟨j, _, by go_num, by have := HK.out; omega, HM.out, by have := HL.out; simp only [List.length_append, List.length_cons, List.length_nil]; omega, fun l' hl' => HZ.out l' (by rw [hl', HT2.out]; simp)⟩, by simp [intOf]⟩
            · have h2 : ¬ (0 : Int) < (j : Int) := by omega
              have HT2 : Hid (tF n j (j + 1) = ch d :: tF n j j) := Lib.hid (by rw [HT.out, if_neg (fun g => h1 g.2)])
              clear h1
              go_wp2_with (go_at_call 94; refine (WB.out _ _ HI.out (by have := HL.out; omega) (48 + (d : Int))).mono ?_; rintro e w8 ⟨rfl, ho8, hb8⟩; rw [one_byte d HD.out] at ho8; have HJ := Lib.hid (HI.out.later (l' := [ch d]) ho8 hb8); have c8 := HJ.out.a.scale; clear ho8 hb8)
              refine ⟨⟨j, _, by go_num, by have := HK.out; omega, HJ.out, by have := HL.out; simp only [List.length_append, List.length_cons, List.length_nil]; omega, fun l' hl' => HZ.out l' (by rw [hl', HT2.out]; simp)⟩, by simp [intOf]⟩
          · have h2 : ¬ (j : Int) = (s : Int) := by omega
            have h3 : ((j : Int) == (s : Int)) = false := beq_false_of_ne h2
            have HT2 : Hid (tF n s (j + 1) = ch d :: tF n s j) := Lib.hid (by rw [HT.out, if_neg (fun g => hjs g.1)])
            clear h2
            go_wp2_with (go_at_call 94; refine (WB.out _ _ HI.out (by have := HL.out; omega) (48 + (d : Int))).mono ?_; rintro e w8 ⟨rfl, ho8, hb8⟩; rw [one_byte d HD.out] at ho8; have HJ := Lib.hid (HI.out.later (l' := [ch d]) ho8 hb8); have c8 := HJ.out.a.scale; clear ho8 hb8)
            refine ⟨⟨j, _, by go_num, by have := HK.out; omega, HJ.out, by have := HL.out; simp only [List.length_append, List.length_cons, List.length_nil]; omega, fun l' hl' => HZ.out l' (by rw [hl', HT2.out]; simp)⟩, by simp [intOf]⟩
    · have TP := Lib.hid (show ∀ l, l = ([] ++ [45]) ++ tF n s T → (⟨l.toArray⟩ : ByteArray) = z from fun l hl => TX.out l (by rw [hl, if_pos ⟨rfl, h0⟩]; rfl))
      have HP : Hid (([] ++ [45] : List UInt8).length ≤ 1) := Lib.hid (by decide)
      have e0 : decide (n = 0) = false := decide_eq_false h0
      clear TX h0
      go_wp2_with (first | (go_at_call 40; refine (ZR.out _ HS.out.a.dig).mono ?_; rintro e wx ⟨rfl, rfl⟩) | (go_at_call 94; refine (WB.out _ _ HS.out (by decide) 45).mono ?_; rintro e W5 ⟨rfl, ho, hb⟩; replace HS := Lib.hid (HS.out.later (l' := [45]) ho hb); clear ho hb))
      have g2 := HS.out.a.scale
      have LQ := Lib.hid fun k => Calls.quiet_of_same (n := k) ((LN.out (W5.drewN k) (HS.out.a.dig.same rfl)).mono fun _ _ h => ⟨h.1, h.2.symm⟩)
      go_quiet ((go_at_call 92; exact LQ.out _))
      have HS := Lib.hid (HS.out.drew nq)
      generalize W5.drewN nq = W6 at HS ⊢
      clear g2 LQ LN ZR g1 hTi
      go_wp2_with fail
      go_loopw [4] (fun i wr => ∃ (k : Nat) (l : List UInt8), i = .int .i64 ((k : Int) - 1) ∧ k ≤ T ∧ TxI w n s true l wr ∧ l.length + 2 * k ≤ 300 ∧ ∀ l', l' = l ++ tF n s k → (⟨l'.toArray⟩ : ByteArray) = z) (fun i _ => (intOf i + 1).toNat)
      case atStart => exact ⟨T, _, rfl, Nat.le_refl _, HS.out, by have := HP.out; omega, TP.out⟩
      case round =>
        obtain ⟨k, l, rfl, hk, hi, hl, hz⟩ := hrel
        have HL := Lib.hid hl
        have HZ := Lib.hid hz
        have HI := Lib.hid hi
        clear hl hz hi
        by_cases h0 : k = 0
        · subst h0
          go_wp2_with (go_at_call 95; refine (ST.out _ _ HI.out).mono ?_; rintro e w9 ⟨rfl, hb9⟩)
          go_ret
          exact ⟨by rw [HZ.out l (by simp [tF])]; rfl, HI.out.bl.trans (hb9.mono (by omega))⟩
        · obtain ⟨j, rfl⟩ : ∃ j, k = j + 1 := ⟨k - 1, by omega⟩
          rw [show (((j + 1 : Nat) : Int) - 1) = (j : Int) by omega]
          have HK := Lib.hid hk
          have c0 := HI.out.a.dig j (by omega)
          have hd := dig_lt n j
          have HT : Hid (tF n s (j + 1) = ch (dig n j) :: (if j = s ∧ 0 < j then 46 :: tF n s j else tF n s j)) := Lib.hid rfl
          obtain ⟨d, hdd⟩ : ∃ d, dig n j = d := ⟨_, rfl⟩
          rw [hdd] at c0 hd HT
          have e2 : IntKind.u8.wrap (48 + (d : Int)) = 48 + (d : Int) := by rw [IntKind.wrap_u8]; omega
          have p0 : (0 : Int) ≤ (j : Int) := by omega
          have p1 : (j : Int) < 128 := by omega
          have HD := Lib.hid hd
          clear hdd hk hd h0
          by_cases hjs : j = s
          · obtain rfl := hjs
            by_cases h1 : 0 < j
            · have h2 : (0 : Int) < (j : Int) := by omega
              have HT2 : Hid (tF n j (j + 1) = ch d :: 46 :: tF n j j) := Lib.hid (by rw [HT.out, if_pos ⟨rfl, h1⟩])
              clear h1
              go_wp2_with (first | (go_at_call 94; refine (WB.out _ _ HJ.out (by have := HL.out; simp only [List.length_append, List.length_cons, List.length_nil]; omega) 46).mono ?_; rintro e w9 ⟨rfl, ho9, hb9⟩; have HM := Lib.hid (HJ.out.later (l' := [46]) ho9 hb9); clear ho9 hb9) | (go_at_call 94; refine (WB.out _ _ HI.out (by have := HL.out; omega) (48 + (d : Int))).mono ?_; rintro e w8 ⟨rfl, ho8, hb8⟩; rw [one_byte d HD.out] at ho8; have HJ := Lib.hid (HI.out.later (l' := [ch d]) ho8 hb8); have c8 := HJ.out.a.scale; clear ho8 hb8))
              refine ⟨⟨j, _, by go_num, by have := HK.out; omega, HM.out, by have := HL.out; simp only [List.length_append, List.length_cons, List.length_nil]; omega, fun l' hl' => HZ.out l' (by rw [hl', HT2.out]; simp)⟩, by simp [intOf]⟩
            · have h2 : ¬ (0 : Int) < (j : Int) := by omega
              have HT2 : Hid (tF n j (j + 1) = ch d :: tF n j j) := Lib.hid (by rw [HT.out, if_neg (fun g => h1 g.2)])
              clear h1
              go_wp2_with (go_at_call 94; refine (WB.out _ _ HI.out (by have := HL.out; omega) (48 + (d : Int))).mono ?_; rintro e w8 ⟨rfl, ho8, hb8⟩; rw [one_byte d HD.out] at ho8; have HJ := Lib.hid (HI.out.later (l' := [ch d]) ho8 hb8); have c8 := HJ.out.a.scale; clear ho8 hb8)
              refine ⟨⟨j, _, by go_num, by have := HK.out; omega, HJ.out, by have := HL.out; simp only [List.length_append, List.length_cons, List.length_nil]; omega, fun l' hl' => HZ.out l' (by rw [hl', HT2.out]; simp)⟩, by simp [intOf]⟩
          · have h2 : ¬ (j : Int) = (s : Int) := by omega
            have h3 : ((j : Int) == (s : Int)) = false := beq_false_of_ne h2
            have HT2 : Hid (tF n s (j + 1) = ch d :: tF n s j) := Lib.hid (by rw [HT.out, if_neg (fun g => hjs g.1)])
            clear h2
            go_wp2_with (go_at_call 94; refine (WB.out _ _ HI.out (by have := HL.out; omega) (48 + (d : Int))).mono ?_; rintro e w8 ⟨rfl, ho8, hb8⟩; rw [one_byte d HD.out] at ho8; have HJ := Lib.hid (HI.out.later (l' := [ch d]) ho8 hb8); have c8 := HJ.out.a.scale; clear ho8 hb8)
            refine ⟨⟨j, _, by go_num, by have := HK.out; omega, HJ.out, by have := HL.out; simp only [List.length_append, List.length_cons, List.length_nil]; omega, fun l' hl' => HZ.out l' (by rw [hl', HT2.out]; simp)⟩, by simp [intOf]⟩

end Go.Proofs.YticbjhogdfpdkaaDoor
