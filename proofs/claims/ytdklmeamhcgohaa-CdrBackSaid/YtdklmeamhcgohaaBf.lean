/-
  PROVED HERE: the law CdrBack returns true for acts that lie in memory, whatever their number, each text of at most 2^47 - 4096 bytes.
-/
import Derived.Test.YtdklmeamhcgohaaBc
namespace Go.Proofs.Ytdklmeamhcgohaa
open Go.RowKit

set_option maxRecDepth 100000 in
set_option maxHeartbeats 8000000 in
theorem walk5_big (big : Bool) (at' : Int) (b off cap : Nat) (l : List ActD) (w : World) (h : ActsAt w b off l) (hb : b < w.heap.size) (hl : l.length ≤ maxLen) (hs : ∀ i (h : i < l.length), l[i].s.size ≤ 140737488351232) (hns : ∀ i (h : i < l.length), -9223372036854775808 ≤ l[i].n ∧ l[i].n ≤ 9223372036854775807)
    (h1 : ¬ at' < 0) (h2 : 7 < at') :
    Calls Try.prog 5 #[.bool big, .int .i64 at', .slice (some ⟨b, off, none⟩) l.length cap] w fun e w' => e = .returned (.bool true) ∧ Below w.heap.size w w' := by
  have LG := Lib.hid (light_wide b off cap l w h hb hl hs)
  clear hl hs
  obtain ⟨r, hr⟩ : ∃ r, (decide (l.length ≤ 60) && decide (totTo l l.length ≤ 300000)) = r := ⟨_, rfl⟩
  rw [hr] at LG
  cases r
  · clear hr h hns
    go_enter Try.func5, Try.ntmps5
    go_wp2_with (first | (go_at_call 9; refine LG.out.mono ?_; rintro e w1 ⟨rfl, hb1⟩; have B1 := Lib.hid hb1; clear hb1) | (go_at_call 10; refine (awake_any _).mono ?_; rintro e w2 ⟨rfl, hb2⟩; have B2 := Lib.hid hb2; clear hb2))
    go_ret
    exact ⟨rfl, B1.out.trans (B2.out.mono B1.out.size)⟩
  simp only [Bool.and_eq_true, decide_eq_true_eq] at hr
  obtain ⟨hr1, hr2⟩ := hr
  have H := Lib.hid h
  have HNS := Lib.hid hns
  have hat := atN_bd at'
  obtain ⟨a, hav⟩ : ∃ a, atN at' = a := ⟨_, rfl⟩
  rw [hav] at hat
  obtain ⟨ha, ha2⟩ := hat
  have e1 : decide (at' < 0) = false := by simpa using h1
  have e2 : decide (7 < at') = true := by simpa using h2
  have haa : a = 0 := by rw [← hav]; unfold atN; rw [if_pos (by omega)]
  have HAA := Lib.hid haa
  clear haa
  have HA := Lib.hid hav
  obtain ⟨i0, hi, hz0, hz1, hz2⟩ := info_parts Try.info30
  clear hav h hns
  go_enter Try.func5, Try.ntmps5
  go_wp2_with (first | (go_at_call 9; refine LG.out.mono ?_; rintro e w1 ⟨rfl, hb1⟩; have B1 := Lib.hid hb1; clear hb1) | (go_at_call 11; refine (newWriter_any _ _ _).mono ?_; rintro e w2 ⟨bw, rfl, hb2, hw2, hbe2⟩))
  rw [HA.out] at hw2
  have HP0 := Lib.hid (show BkI w w2 bw (.slice none 0 0) [] (.slice none 0 0) [] big a from ⟨⟨hw2, World.ownsRow_nil _ 0 5 1⟩, World.ownsRow_nil _ _ 30 4, Nat.le_trans B1.out.size hb2, fun g hg => by simp [Value.ownBlock] at hg, B1.out.trans (hbe2.mono B1.out.size)⟩)
  clear hw2 hb2 hbe2
  go_loopw [8, 28] (fun d v wr => ∃ (k : Nat) (out : List UInt8) (sv : Value) (done : List ActD), v = .int .i64 k ∧ k ≤ l.length ∧ out.length ≤ 65536 ∧ done.length ≤ k ∧ Chain big a done out ∧ (∀ x ∈ done, x.s.size ≤ 1000000 ∧ 0 ≤ x.k ∧ x.k ≤ 8) ∧ BkI w wr bw sv out d done big a) (fun _ v _ => l.length - (intOf v).toNat)
  case atStart => exact ⟨0, [], _, [], rfl, Nat.zero_le _, by simp, Nat.le_refl _, Chain.nil, fun x hx => by simp at hx, HP0.out⟩
  case round =>
    obtain ⟨k, out, sv, done, rfl, hk, hol, hdk, hch, hdn, hp⟩ := hrel
    have HP := Lib.hid hp
    have HCH := Lib.hid hch
    have HDN := Lib.hid hdn
    obtain ⟨dao, dcap, rfl⟩ := hp.form
    clear hp hch hdn
    by_cases hlt : k < l.length
    · obtain ⟨c0, c1, c2, c3⟩ := (H.out.below HP.out.below hb) k hlt
      have hss : l[k].s.size ≤ 1000000 := by
        have h1 := totTo_le l (k + 1)
        have h2 := totTo_succ l k hlt
        omega
      obtain ⟨hn1, hn2⟩ := HNS.out k hlt
      generalize l[k].s = t at c3 hss
      generalize l[k].k = kk at c0
      generalize l[k].n = nn at c1 hn1 hn2
      generalize l[k].m = mm at c2
      by_cases hk0 : kk < 0
      · have d0 : decide (kk < 0) = true := by simpa using hk0
        have HPA := Lib.hid (HP.out.later (W' := wr.alloc (Obj.cells #[Value.int IntKind.i64 kk, Value.int IntKind.i64 nn, Value.int IntKind.i64 mm, Value.string t] 30)) (below_alloc _ _))
        go_wp2_with fail
        exact ⟨⟨k + 1, out, sv, done, by go_num, hlt, hol, by omega, HCH.out, HDN.out, HPA.out⟩, by simp [intOf]; omega⟩
      by_cases hk8 : 8 < kk
      · have d0 : decide (kk < 0) = false := by simpa using hk0
        have d8 : decide (8 < kk) = true := by simpa using hk8
        have HPA := Lib.hid (HP.out.later (W' := wr.alloc (Obj.cells #[Value.int IntKind.i64 kk, Value.int IntKind.i64 nn, Value.int IntKind.i64 mm, Value.string t] 30)) (below_alloc _ _))
        go_wp2_with fail
        exact ⟨⟨k + 1, out, sv, done, by go_num, hlt, hol, by omega, HCH.out, HDN.out, HPA.out⟩, by simp [intOf]; omega⟩
      have d0 : decide (kk < 0) = false := by simpa using hk0
      have d8 : decide (8 < kk) = false := by simpa using hk8
      obtain ⟨c, out', hwb⟩ := wb_any big a out nn mm t ha ha2 hol kk hk0 hk8 hss hn1 hn2
      have HWB := Lib.hid hwb
      have WP := Lib.hid hwb.prog
      unfold actV at WP
      clear hwb
      have HPA := Lib.hid (HP.out.later (W' := wr.alloc (Obj.cells #[Value.int IntKind.i64 kk, Value.int IntKind.i64 nn, Value.int IntKind.i64 mm, Value.string t] 30)) (below_alloc _ _))
      have hga := heap_alloc_new wr (Obj.cells #[Value.int IntKind.i64 kk, Value.int IntKind.i64 nn, Value.int IntKind.i64 mm, Value.string t] 30)
      have hglt : wr.heap.size ≠ bw := by have := HP.out.w.1.lt; omega
      have hgow : some wr.heap.size ≠ sv.ownBlock := fun e => by have := HP.out.w.own_lt e.symm; omega
      have HGA := Lib.hid hga
      clear hga
      by_cases hc : c = 0
      · have hce : (c == 0) = true := by simpa using hc
        have HBK := Lib.hid (HWB.out.ok hc)
        go_wp2_with (first | (go_at_call 13; refine (WP.out bw sv _ HPA.out.w).mono ?_; rintro e w4 ⟨rfl, sv2, hh4, hw4⟩; have hg4 := wrote_keeps' hw4 HGA.out hglt hgow; obtain ⟨x0, x1, x2, x3⟩ := ActAt.of (k := kk) (n := nn) (m := mm) (s := t) hg4; have HP4 := Lib.hid (HPA.out.wrote hh4 hw4); clear hh4 hw4 hg4) | (at_builtin; refine wpList_append_own_at _ rfl _ _ 22 rfl w.heap.size 30 i0 (.agg #[.int .i64 0, .int .i64 0, .int .i64 0, .string ⟨#[]⟩]) 4 40 Try.underlying22 hi hz0 hz1 hz2 rfl (by decide) _ _ _ rfl (HP4.out.row.alloc _) ⟨w4.heap.size, 0, none⟩ 1 1 [.int .i64 kk, .int .i64 nn, .int .i64 mm, .string t] rfl rfl (cells_new _ _ _) (by simp [Value.oneCell']) (by unfold maxLen; omega) (by omega) (by have := HP4.out.below.size; simp; omega) ?_; intro v' w5 hown' hgrow _ _; have HP5 := Lib.hid ((HP4.out.later (below_alloc _ _)).appended (x := ⟨kk, nn, mm, t⟩) hown' hgrow); clear hown' hgrow))
        exact ⟨⟨k + 1, out', sv2, done ++ [⟨kk, nn, mm, t⟩], by go_num, hlt, HWB.out.len, by simp; omega, Chain.snoc HCH.out HBK.out, fun x hx => by rcases List.mem_append.1 hx with h | h; exact HDN.out x h; rw [List.mem_singleton.1 h]; exact ⟨hss, by show 0 ≤ kk; omega, by show kk ≤ 8; omega⟩, HP5.out⟩, by simp [intOf]; omega⟩
      · have hce : (c == 0) = false := by simpa using hc
        have HOUT := Lib.hid (HWB.out.no hc)
        go_wp2_with (go_at_call 13; refine (WP.out bw sv _ HPA.out.w).mono ?_; rintro e w4 ⟨rfl, sv2, hh4, hw4⟩; have HP4 := Lib.hid (HPA.out.wrote hh4 hw4); clear hh4 hw4)
        exact ⟨⟨k + 1, out, sv2, done, by go_num, hlt, hol, by omega, HCH.out, HDN.out, by have := HP4.out; rw [HOUT.out] at this; exact this⟩, by simp [intOf]; omega⟩
    · obtain rfl : k = l.length := by omega
      obtain ⟨S, hS⟩ : ∃ S : ByteArray, S = ⟨out.toArray⟩ := ⟨_, rfl⟩
      have hSl : bytesOf S = out := by rw [hS]; simp [bytesOf]
      have hSz : S.size = out.length := by rw [← bytesOf_length, hSl]
      have AA := all_any bw big a sv out wr HP.out.w
      rw [← hS] at AA
      have AA := Lib.hid AA
      obtain ⟨pos, p0, pl, pr⟩ := HCH.out.read
      have hpr := pr S (by rw [hSl]; exact List.prefix_refl _)
      have HPB := Lib.hid (pos_bd p0 hpr)
      have HPR := Lib.hid hpr
      have HP0' := Lib.hid p0
      have HPL := Lib.hid pl
      have HSZ := Lib.hid hSz
      have hSs : S.size ≤ 1000000 := by omega
      clear hS hSl pr hpr p0 pl hSz
      go_wp2_with (first | (go_at_call 17; refine AA.out.mono ?_; rintro e w4 ⟨rfl, rfl⟩) | (go_at_call 21; refine (newReader_any _ _ _ _).mono ?_; rintro e w5 ⟨br, rfl, hb5, hw5, hbe5⟩))
      rw [HA.out] at hw5
      have HQ0 := Lib.hid (show NewR w w5 br big a S (pos 0, false) from ⟨by rw [HP0'.out]; exact hw5, Nat.le_trans HP.out.below.size hb5, HP.out.below.trans (hbe5.mono HP.out.below.size)⟩)
      have HK0 := Lib.hid (HP.out.later hbe5)
      clear hw5 hb5 hbe5
      go_loopw [64] (fun v wr => ∃ q : Nat, v = .int .i64 q ∧ q ≤ done.length ∧ NewR w wr br big a S (pos q, false) ∧ BkI w wr bw sv out (.slice dao done.length dcap) done big a) (fun v _ => done.length - (intOf v).toNat)
      case atStart => exact ⟨0, rfl, Nat.zero_le _, HQ0.out, HK0.out⟩
      case round =>
        obtain ⟨q, rfl, hq, hnr, hbk⟩ := hrel
        have HNR := Lib.hid hnr
        have HBKI := Lib.hid hbk
        by_cases hql : q < done.length
        · obtain ⟨g, cap2, he, hgl, hacts⟩ := hbk.acts (fun e => by rw [e] at hql; simp at hql)
          injection he with he1 he2 he3
          subst he1 he3
          obtain ⟨y0, y1, y2, y3⟩ := hacts q hql
          obtain ⟨hts, hk0, hk8⟩ := HDN.out done[q] (List.getElem_mem hql)
          have hprq := HPR.out q hql
          have hpb := HPB.out q hq
          clear hnr hbk hacts
          generalize done[q].s = t at y3 hts hprq
          generalize done[q].k = kk at y0 hk0 hk8 hprq
          generalize done[q].n = nn at y1 hprq
          generalize done[q].m = mm at y2
          have RA := fun W hW => read_any br big a S (pos q) false kk (askN kk nn t) mm t W hW ha ha2 hSs hpb
          rw [hprq] at RA
          clear hprq hpb
          unfold actV toldV at RA
          dsimp only at RA
          simp only [Nat.zero_add] at y0 y1 y2 y3
          by_cases k1 : kk = 1
          · subst k1
            by_cases n1 : nn = 1
            · subst n1
              rw [show askN 1 1 t = 1 from rfl, show wantN 1 1 = 1 from rfl, show wantS 1 t = (⟨#[]⟩ : ByteArray) from rfl] at RA
              have hbx : Below wr.heap.size wr ((wr.alloc (Obj.cells #[Value.int IntKind.i64 1, Value.int IntKind.i64 1, Value.int IntKind.i64 mm, Value.string t] 30)).alloc (Obj.cells #[Value.int IntKind.i64 1, Value.int IntKind.i64 1, Value.int IntKind.i64 mm, Value.string t] 30)) := below_two _ _ _
              have hgx : ((wr.alloc (Obj.cells #[Value.int IntKind.i64 1, Value.int IntKind.i64 1, Value.int IntKind.i64 mm, Value.string t] 30)).alloc (Obj.cells #[Value.int IntKind.i64 1, Value.int IntKind.i64 1, Value.int IntKind.i64 mm, Value.string t] 30)).heap[wr.heap.size]? = some (actO (1) 1 mm t) := (Below.heap_alloc _ _ _ (by simp)).trans (heap_alloc_new wr (Obj.cells #[Value.int IntKind.i64 1, Value.int IntKind.i64 1, Value.int IntKind.i64 mm, Value.string t] 30))
              have RX := RA _ (HNR.out.later hbx).at'
              have HNX := Lib.hid (HNR.out.later hbx)
              have HBX := Lib.hid (HBKI.out.later hbx)
              have HGX := Lib.hid hgx
              have hgne : wr.heap.size ≠ br := by have := HNR.out.at'.lt; omega
              have RX := Lib.hid RX
              clear RA hbx hgx
              go_wp2_with fail
              refine RX.out.mono ?_
              rintro e w4 ⟨rfl, h4⟩
              have hg4 := (h4.2.block wr.heap.size (Array.getElem?_eq_some_iff.1 HGX.out).1 (by simpa using hgne)).trans HGX.out
              obtain ⟨z0, z1, z2, z3⟩ := ActAt.of hg4
              have hsz4 : wr.heap.size + 2 ≤ w4.heap.size := by have := h4.2.size; simp at this; omega
              have hq0 : ¬ wr.heap.size = w4.heap.size := by omega
              have hq1 : ¬ wr.heap.size = w4.heap.size + 1 := by omega
              have hq2 : wr.heap.size < w4.heap.size := by omega
              have hq3 : wr.heap.size < w4.heap.size + 1 := by omega
              have HN4 := Lib.hid (HNX.out.act h4)
              have HB4 := Lib.hid (HBX.out.acted HNX.out.at' HNX.out.lo h4.2)
              clear h4 hg4 y0 y1 y2 y3
              go_wp2_with fail
              exact ⟨⟨q + 1, by go_num, hql, HN4.out.later (below_two _ _ _), HB4.out.later (below_two _ _ _)⟩, by simp [intOf]; omega⟩
            · have n1f : (nn == 1) = false := by simpa using n1
              rw [show askN 1 nn t = nn from rfl, show wantN 1 nn = 0 from by unfold wantN; rw [if_pos rfl, if_neg n1], show wantS 1 t = (⟨#[]⟩ : ByteArray) from rfl] at RA
              have hbx : Below wr.heap.size wr ((wr.alloc (Obj.cells #[Value.int IntKind.i64 1, Value.int IntKind.i64 nn, Value.int IntKind.i64 mm, Value.string t] 30)).alloc (Obj.cells #[Value.int IntKind.i64 1, Value.int IntKind.i64 nn, Value.int IntKind.i64 mm, Value.string t] 30)) := below_two _ _ _
              have hgx : ((wr.alloc (Obj.cells #[Value.int IntKind.i64 1, Value.int IntKind.i64 nn, Value.int IntKind.i64 mm, Value.string t] 30)).alloc (Obj.cells #[Value.int IntKind.i64 1, Value.int IntKind.i64 nn, Value.int IntKind.i64 mm, Value.string t] 30)).heap[wr.heap.size]? = some (actO (1) nn mm t) := (Below.heap_alloc _ _ _ (by simp)).trans (heap_alloc_new wr (Obj.cells #[Value.int IntKind.i64 1, Value.int IntKind.i64 nn, Value.int IntKind.i64 mm, Value.string t] 30))
              have RX := RA _ (HNR.out.later hbx).at'
              have HNX := Lib.hid (HNR.out.later hbx)
              have HBX := Lib.hid (HBKI.out.later hbx)
              have HGX := Lib.hid hgx
              have hgne : wr.heap.size ≠ br := by have := HNR.out.at'.lt; omega
              have RX := Lib.hid RX
              clear RA hbx hgx
              go_wp2_with fail
              refine RX.out.mono ?_
              rintro e w4 ⟨rfl, h4⟩
              have hg4 := (h4.2.block wr.heap.size (Array.getElem?_eq_some_iff.1 HGX.out).1 (by simpa using hgne)).trans HGX.out
              obtain ⟨z0, z1, z2, z3⟩ := ActAt.of hg4
              have hsz4 : wr.heap.size + 2 ≤ w4.heap.size := by have := h4.2.size; simp at this; omega
              have hq0 : ¬ wr.heap.size = w4.heap.size := by omega
              have hq1 : ¬ wr.heap.size = w4.heap.size + 1 := by omega
              have hq2 : wr.heap.size < w4.heap.size := by omega
              have hq3 : wr.heap.size < w4.heap.size + 1 := by omega
              have HN4 := Lib.hid (HNX.out.act h4)
              have HB4 := Lib.hid (HBX.out.acted HNX.out.at' HNX.out.lo h4.2)
              clear h4 hg4 y0 y1 y2 y3
              go_wp2_with fail
              exact ⟨⟨q + 1, by go_num, hql, HN4.out.later (below_two _ _ _), HB4.out.later (below_two _ _ _)⟩, by simp [intOf]; omega⟩
          by_cases k7 : kk = 7
          · subst k7
            rw [show askN 7 nn t = (t.size : Int) from rfl, show wantN 7 nn = 0 from rfl, show wantS 7 t = t from rfl] at RA
            have hbx : Below wr.heap.size wr ((wr.alloc (Obj.cells #[Value.int IntKind.i64 7, Value.int IntKind.i64 nn, Value.int IntKind.i64 mm, Value.string t] 30)).alloc (Obj.cells #[Value.int IntKind.i64 7, Value.int IntKind.i64 t.size, Value.int IntKind.i64 mm, Value.string t] 30)) := below_two _ _ _
            have hgx : ((wr.alloc (Obj.cells #[Value.int IntKind.i64 7, Value.int IntKind.i64 nn, Value.int IntKind.i64 mm, Value.string t] 30)).alloc (Obj.cells #[Value.int IntKind.i64 7, Value.int IntKind.i64 t.size, Value.int IntKind.i64 mm, Value.string t] 30)).heap[wr.heap.size]? = some (actO (7) nn mm t) := (Below.heap_alloc _ _ _ (by simp)).trans (heap_alloc_new wr (Obj.cells #[Value.int IntKind.i64 7, Value.int IntKind.i64 nn, Value.int IntKind.i64 mm, Value.string t] 30))
            have RX := RA _ (HNR.out.later hbx).at'
            have HNX := Lib.hid (HNR.out.later hbx)
            have HBX := Lib.hid (HBKI.out.later hbx)
            have HGX := Lib.hid hgx
            have hgne : wr.heap.size ≠ br := by have := HNR.out.at'.lt; omega
            have RX := Lib.hid RX
            clear RA hbx hgx
            go_wp2_with fail
            refine RX.out.mono ?_
            rintro e w4 ⟨rfl, h4⟩
            have hg4 := (h4.2.block wr.heap.size (Array.getElem?_eq_some_iff.1 HGX.out).1 (by simpa using hgne)).trans HGX.out
            obtain ⟨z0, z1, z2, z3⟩ := ActAt.of hg4
            have hsz4 : wr.heap.size + 2 ≤ w4.heap.size := by have := h4.2.size; simp at this; omega
            have hq0 : ¬ wr.heap.size = w4.heap.size := by omega
            have hq1 : ¬ wr.heap.size = w4.heap.size + 1 := by omega
            have hq2 : wr.heap.size < w4.heap.size := by omega
            have hq3 : wr.heap.size < w4.heap.size + 1 := by omega
            have HN4 := Lib.hid (HNX.out.act h4)
            have HB4 := Lib.hid (HBX.out.acted HNX.out.at' HNX.out.lo h4.2)
            clear h4 hg4 y0 y1 y2 y3
            go_wp2_with fail
            exact ⟨⟨q + 1, by go_num, hql, HN4.out.later (below_two _ _ _), HB4.out.later (below_two _ _ _)⟩, by simp [intOf]; omega⟩
          by_cases k8 : kk = 8
          · subst k8
            rw [show askN 8 nn t = nn from rfl, show wantN 8 nn = 0 from rfl, show wantS 8 t = (⟨#[]⟩ : ByteArray) from rfl] at RA
            have hbx : Below wr.heap.size wr ((wr.alloc (Obj.cells #[Value.int IntKind.i64 8, Value.int IntKind.i64 nn, Value.int IntKind.i64 mm, Value.string t] 30)).alloc (Obj.cells #[Value.int IntKind.i64 8, Value.int IntKind.i64 nn, Value.int IntKind.i64 mm, Value.string t] 30)) := below_two _ _ _
            have hgx : ((wr.alloc (Obj.cells #[Value.int IntKind.i64 8, Value.int IntKind.i64 nn, Value.int IntKind.i64 mm, Value.string t] 30)).alloc (Obj.cells #[Value.int IntKind.i64 8, Value.int IntKind.i64 nn, Value.int IntKind.i64 mm, Value.string t] 30)).heap[wr.heap.size]? = some (actO (8) nn mm t) := (Below.heap_alloc _ _ _ (by simp)).trans (heap_alloc_new wr (Obj.cells #[Value.int IntKind.i64 8, Value.int IntKind.i64 nn, Value.int IntKind.i64 mm, Value.string t] 30))
            have RX := RA _ (HNR.out.later hbx).at'
            have HNX := Lib.hid (HNR.out.later hbx)
            have HBX := Lib.hid (HBKI.out.later hbx)
            have HGX := Lib.hid hgx
            have hgne : wr.heap.size ≠ br := by have := HNR.out.at'.lt; omega
            have RX := Lib.hid RX
            clear RA hbx hgx
            go_wp2_with fail
            refine RX.out.mono ?_
            rintro e w4 ⟨rfl, h4⟩
            have hg4 := (h4.2.block wr.heap.size (Array.getElem?_eq_some_iff.1 HGX.out).1 (by simpa using hgne)).trans HGX.out
            obtain ⟨z0, z1, z2, z3⟩ := ActAt.of hg4
            have hsz4 : wr.heap.size + 2 ≤ w4.heap.size := by have := h4.2.size; simp at this; omega
            have hq0 : ¬ wr.heap.size = w4.heap.size := by omega
            have hq1 : ¬ wr.heap.size = w4.heap.size + 1 := by omega
            have hq2 : wr.heap.size < w4.heap.size := by omega
            have hq3 : wr.heap.size < w4.heap.size + 1 := by omega
            have HN4 := Lib.hid (HNX.out.act h4)
            have HB4 := Lib.hid (HBX.out.acted HNX.out.at' HNX.out.lo h4.2)
            clear h4 hg4 y0 y1 y2 y3
            go_wp2_with fail
            exact ⟨⟨q + 1, by go_num, hql, HN4.out.later (below_two _ _ _), HB4.out.later (below_two _ _ _)⟩, by simp [intOf]; omega⟩
          have q7 : (kk == 7) = false := by simpa using k7
          have q1 : (kk == 1) = false := by simpa using k1
          have q1' : (kk != 1) = true := by simpa using k1
          by_cases k5 : kk < 5
          · have d5 : decide (kk < 5) = true := by simpa using k5
            rw [show askN kk nn t = nn from by unfold askN; rw [if_neg k7], show wantN kk nn = nn from by unfold wantN; rw [if_neg k1, if_pos k5], show wantS kk t = (⟨#[]⟩ : ByteArray) from by unfold wantS; rw [if_neg (by omega)]; rfl] at RA
            have hbx : Below wr.heap.size wr ((wr.alloc (Obj.cells #[Value.int IntKind.i64 kk, Value.int IntKind.i64 nn, Value.int IntKind.i64 mm, Value.string t] 30)).alloc (Obj.cells #[Value.int IntKind.i64 kk, Value.int IntKind.i64 nn, Value.int IntKind.i64 mm, Value.string t] 30)) := below_two _ _ _
            have hgx : ((wr.alloc (Obj.cells #[Value.int IntKind.i64 kk, Value.int IntKind.i64 nn, Value.int IntKind.i64 mm, Value.string t] 30)).alloc (Obj.cells #[Value.int IntKind.i64 kk, Value.int IntKind.i64 nn, Value.int IntKind.i64 mm, Value.string t] 30)).heap[wr.heap.size]? = some (actO (kk) nn mm t) := (Below.heap_alloc _ _ _ (by simp)).trans (heap_alloc_new wr (Obj.cells #[Value.int IntKind.i64 kk, Value.int IntKind.i64 nn, Value.int IntKind.i64 mm, Value.string t] 30))
            have RX := RA _ (HNR.out.later hbx).at'
            have HNX := Lib.hid (HNR.out.later hbx)
            have HBX := Lib.hid (HBKI.out.later hbx)
            have HGX := Lib.hid hgx
            have hgne : wr.heap.size ≠ br := by have := HNR.out.at'.lt; omega
            have RX := Lib.hid RX
            clear RA hbx hgx
            go_wp2_with fail
            refine RX.out.mono ?_
            rintro e w4 ⟨rfl, h4⟩
            have hg4 := (h4.2.block wr.heap.size (Array.getElem?_eq_some_iff.1 HGX.out).1 (by simpa using hgne)).trans HGX.out
            obtain ⟨z0, z1, z2, z3⟩ := ActAt.of hg4
            have hsz4 : wr.heap.size + 2 ≤ w4.heap.size := by have := h4.2.size; simp at this; omega
            have hq0 : ¬ wr.heap.size = w4.heap.size := by omega
            have hq1 : ¬ wr.heap.size = w4.heap.size + 1 := by omega
            have hq2 : wr.heap.size < w4.heap.size := by omega
            have hq3 : wr.heap.size < w4.heap.size + 1 := by omega
            have HN4 := Lib.hid (HNX.out.act h4)
            have HB4 := Lib.hid (HBX.out.acted HNX.out.at' HNX.out.lo h4.2)
            clear h4 hg4 y0 y1 y2 y3
            go_wp2_with fail
            exact ⟨⟨q + 1, by go_num, hql, HN4.out.later (below_two _ _ _), HB4.out.later (below_two _ _ _)⟩, by simp [intOf]; omega⟩
          · have d5 : decide (kk < 5) = false := by simpa using k5
            have d6 : decide (5 ≤ kk) = true := by simp; omega
            have d7 : decide (kk < 8) = true := by simp; omega
            rw [show askN kk nn t = nn from by unfold askN; rw [if_neg k7], show wantN kk nn = 0 from by unfold wantN; rw [if_neg k1, if_neg k5], show wantS kk t = t from by unfold wantS; rw [if_pos (by omega)]] at RA
            have hbx : Below wr.heap.size wr ((wr.alloc (Obj.cells #[Value.int IntKind.i64 kk, Value.int IntKind.i64 nn, Value.int IntKind.i64 mm, Value.string t] 30)).alloc (Obj.cells #[Value.int IntKind.i64 kk, Value.int IntKind.i64 nn, Value.int IntKind.i64 mm, Value.string t] 30)) := below_two _ _ _
            have hgx : ((wr.alloc (Obj.cells #[Value.int IntKind.i64 kk, Value.int IntKind.i64 nn, Value.int IntKind.i64 mm, Value.string t] 30)).alloc (Obj.cells #[Value.int IntKind.i64 kk, Value.int IntKind.i64 nn, Value.int IntKind.i64 mm, Value.string t] 30)).heap[wr.heap.size]? = some (actO (kk) nn mm t) := (Below.heap_alloc _ _ _ (by simp)).trans (heap_alloc_new wr (Obj.cells #[Value.int IntKind.i64 kk, Value.int IntKind.i64 nn, Value.int IntKind.i64 mm, Value.string t] 30))
            have RX := RA _ (HNR.out.later hbx).at'
            have HNX := Lib.hid (HNR.out.later hbx)
            have HBX := Lib.hid (HBKI.out.later hbx)
            have HGX := Lib.hid hgx
            have hgne : wr.heap.size ≠ br := by have := HNR.out.at'.lt; omega
            have RX := Lib.hid RX
            clear RA hbx hgx
            go_wp2_with fail
            refine RX.out.mono ?_
            rintro e w4 ⟨rfl, h4⟩
            have hg4 := (h4.2.block wr.heap.size (Array.getElem?_eq_some_iff.1 HGX.out).1 (by simpa using hgne)).trans HGX.out
            obtain ⟨z0, z1, z2, z3⟩ := ActAt.of hg4
            have hsz4 : wr.heap.size + 2 ≤ w4.heap.size := by have := h4.2.size; simp at this; omega
            have hq0 : ¬ wr.heap.size = w4.heap.size := by omega
            have hq1 : ¬ wr.heap.size = w4.heap.size + 1 := by omega
            have hq2 : wr.heap.size < w4.heap.size := by omega
            have hq3 : wr.heap.size < w4.heap.size + 1 := by omega
            have HN4 := Lib.hid (HNX.out.act h4)
            have HB4 := Lib.hid (HBX.out.acted HNX.out.at' HNX.out.lo h4.2)
            clear h4 hg4 y0 y1 y2 y3
            go_wp2_with fail
            exact ⟨⟨q + 1, by go_num, hql, HN4.out.later (below_two _ _ _), HB4.out.later (below_two _ _ _)⟩, by simp [intOf]; omega⟩
        · obtain rfl : q = done.length := by omega
          have hat2 := hnr.at'
          dsimp only at hat2
          rw [HPL.out] at hat2
          obtain ⟨ao3, cap3, he3⟩ := hbk.w.form
          have hwa := hbk.w.1
          rw [he3] at hwa
          have WA := Lib.hid hwa
          have RC := Lib.hid hat2
          have HBB := Lib.hid hbk.below
          have hSz := HSZ.out
          have haz := HAA.out
          subst haz
          have hc1 : ((0 + (out.length : Int)) == (S.size : Int)) = true := by simp; omega
          have hc3 : ((S.size : Int) - (out.length : Int) == 0) = true := by simp; omega
          clear hnr hbk hat2 hwa he3
          go_wp2_with (first | (go_at_call 15; (fail_if_success (have := n1)); refine (place_any bw big 0 ao3 out.length cap3 _ WA.out ha ha2 (by omega)).mono ?_; rintro e w6 ⟨rfl, n1, rfl⟩) | (go_at_call 25; refine (cplace_any br big 0 S out.length false (wr.drewN n1) RC.out ha ha2 (by omega)).mono ?_; rintro e w7 ⟨rfl, n2, rfl⟩) | (go_at_call 15; refine (place_any bw big 0 ao3 out.length cap3 (wr.drewN (n1 + n2)) WA.out ha ha2 (by omega)).mono ?_; rintro e w8 ⟨rfl, n3, rfl⟩) | (go_at_call 27; refine (cleft_any br big 0 S out.length false (wr.drewN (n1 + n2 + n3)) RC.out (by omega) (by omega)).mono ?_; rintro e w9 ⟨rfl, n4, rfl⟩) | (go_at_call 29; refine (cbad_any br big 0 S out.length false (wr.drewN (n1 + n2 + n3 + n4)) RC.out ha ha2 (by omega)).mono ?_; rintro e w10 ⟨rfl, n5, rfl⟩; first | rw [show badN a out.length false = -1 from rfl] | rw [show badN 0 out.length false = -1 from rfl]) | (go_at_call 10; refine (awake_any _).mono ?_; rintro e w11 ⟨rfl, hb11⟩; have B11 := Lib.hid hb11; clear hb11))
          go_ret
          exact ⟨rfl, (HBB.out.trans ((below_drewN' wr _).mono HBB.out.size)).trans (B11.out.mono HBB.out.size)⟩

end Go.Proofs.Ytdklmeamhcgohaa
