/- DiskCopies: the walk. -/
import Derived.Test.YtadpomclnhemoaaS19
namespace Go.Proofs.Ytadpomclnhemoaa
open Go.RowKit
set_option linter.unusedVariables false

set_option maxHeartbeats 16000000 in
theorem diskcopies_try (size : Nat) (A B : Option Addr) (len len2 c c2 : Nat) (l l2 : List ActD) (w : World) (h1 : 1 ≤ size) (h2 : size ≤ 300) (h3 : len + len2 ≤ 40) (hl : ActsAt w A len l) (hl2 : ActsAt w B len2 l2) (hall : (l.all fun x => decide (x.bs.length ≤ 100)) = true) (hall2 : (l2.all fun x => decide (x.bs.length ≤ 100)) = true) :
    Calls Try.prog 6 #[.int .i64 (size : Int), .slice A len c, .slice B len2 c2] w fun e w' => e = .returned (.bool true) ∧ Below w.heap.size w w' := by
  have HL := Lib.hid hl
  have HL2 := Lib.hid hl2
  have F1 : Hid (Calls Try.prog 9 #[.int .i64 (size : Int), .slice A len c] w fun e w' => e = .returned (.bool true) ∧ w = w') := by
    have := few_in (size : Int) A len c l w (by omega) (by omega) hl
    rw [hall] at this
    exact this
  have F2 : Hid (Calls Try.prog 9 #[.int .i64 (size : Int), .slice B len2 c2] w fun e w' => e = .returned (.bool true) ∧ w = w') := by
    have := few_in (size : Int) B len2 c2 l2 w (by omega) (by omega) hl2
    rw [hall2] at this
    exact this
  clear hl hl2 hall hall2
  go_enter Try.func6, Try.ntmps6
  go_wp2_with fail
  refine F1.out.mono ?_
  rintro e w' ⟨rfl, rfl⟩
  go_wp2_with fail
  refine F2.out.mono ?_
  rintro e w' ⟨rfl, rfl⟩
  go_wp2_with fail
  refine (new_yes size _ h1 (by omega)).mono ?_
  rintro e w1 ⟨k, rfl, hd1, hS1, hL1, hW1, hl1, hf1, ho1, hn1, hk1⟩
  have K1 := Lib.hid hk1
  have HD1 := Lib.hid (And.intro hd1 (And.intro hS1 (And.intro hL1 (And.intro hW1 (And.intro hl1 (And.intro hf1 (And.intro ho1 hn1)))))))
  clear hd1 hS1 hL1 hW1 hl1 hf1 ho1 hn1 hk1 F1 F2
  go_wp2_with fail
  refine (refnew_yes size _ h1 (by omega)).mono ?_
  rintro e w2 ⟨r, rfl, hr2, hrL, hrW, hra, hrl, hr0, hrn, hb2⟩
  have HP0 : Hid (PI w size 0 w2 k r) := by
    obtain ⟨hd1, hS1, hL1, hW1, hl1, hf1, ho1, hn1⟩ := HD1.out
    exact ⟨pair_new (w := w) hd1 hS1 hL1 hW1 hl1 hf1 ho1 (Keeps.of_below hb2) hr2 hrL hrW hrl hra hr0 hrn, fun b hb => hn1 b (fp_sub hb), K1.out.trans' (Keeps.of_below hb2), by rw [hS1]; simp, by rw [hW1]; simp, by omega⟩
  clear hr2 hrL hrW hra hrl hr0 hrn hb2 HD1 K1
  unfold Rf.v
  go_wp2_with fail
  have HB0 : Hid ((w2.alloc r.box).heap[w2.heap.size]? = some r.box ∧ w2.heap.size ∉ k.all ∧ w2.heap.size ∉ r.all ∧ w.heap.size ≤ w2.heap.size) := ⟨heap_alloc_new w2 r.box, fun hm => by have := HP0.out.pair.disk.lt _ hm; omega, fun hm => by have := HP0.out.pair.ref.lt _ hm; omega, HP0.out.keeps.size⟩
  have HP1 := Lib.hid (HP0.out.grow ((Keeps.refl [] w2).alloc r.box))
  generalize w2.heap.size = gB at *
  clear HP0
  go_loopw [7, 11] (fun dv i wr => ∃ (j : Nat) (k : Dk) (r : Rf), dv = .pointer (some ⟨k.p, 0, none⟩) ∧ i = .int .i64 (j : Int) ∧ j ≤ len ∧ Hid (PI w size j wr k r) ∧ Hid (wr.heap[gB]? = some r.box ∧ gB ∉ k.all ∧ gB ∉ r.all ∧ w.heap.size ≤ gB)) (fun _ i _ => len - (intOf i).toNat)
  case atStart => exact ⟨0, k, r, rfl, rfl, Nat.zero_le _, HP1, HB0⟩
  case round =>
    clear HP1 HB0
    obtain ⟨j, k, r, rfl, rfl, hj, HJ, HB⟩ := hrel
    by_cases hlt : j < len
    · have hll := HL.out.len
      have hx : l[j]? = some (l[j]'(by omega)) := List.getElem?_eq_getElem (by omega)
      obtain ⟨b, o, hA, ho⟩ := HL.out.at_ j _ hx
      generalize l[j]'(by omega) = x at *
      subst hA
      have ho' := ho.keep HJ.out.keeps
      have x0 := ho'.c0
      have x1 := ho'.c1
      have x2 := ho'.c2
      have x3 := ho'.c3
      have x4 := ho'.c4
      have x5 := ho'.c5
      have HX := Lib.hid ho'
      have HO := Lib.hid ho
      have nbg : ¬ b = gB := by
        have h5 : b < w.heap.size := lt_of_cell ho.c0
        have h6 := HB.out.2.2.2
        omega
      clear hx ho ho' hll
      obtain ⟨⟨y0, y1, y2, y3, y4⟩, _⟩ := five_facts HB.out.1
      have HD := fun W (hk : Keeps [] wr W) => Lib.hid (pi_does (HJ.out.grow hk) (by omega) (HX.out.keep hk))
      unfold Rf.v ActD.v at HD
      go_wp2_with fail
      go_region_with (first
        | (go_at_call 13; refine (HD _ (Keeps.refl [] wr).drew).out.mono ?_; rintro e w1 ⟨k', q, rfl, hwt⟩; obtain ⟨hp2, hb2, hx2, hz1, hz2⟩ := pi_behind HJ.out HB.out HO.out (Keeps.refl [] wr).drew hwt; obtain ⟨⟨v0, v1, v2, v3, v4⟩, ⟨e0, e1, e2, e3, e4⟩⟩ := five_facts hb2.1; have i0 := hx2.c0; have i1 := hx2.c1; have i2 := hx2.c2; have i3 := hx2.c3; have i4 := hx2.c4; have i5 := hx2.c5; have HL3 := Lib.hid (pi_laid hp2 hb2 HB.out.2.2.2)))
      all_goals
        go_wp2_with fail
        go_roundw
        case rel => exact ⟨j + 1, k', q, rfl, by go_num, by omega, HL3.out.1, HL3.out.2⟩
        case measure => simp [intOf]; omega
    · clear HL
      obtain rfl : j = len := by omega
      obtain ⟨⟨y0, y1, y2, y3, y4⟩, _⟩ := five_facts HB.out.1
      have HPa := Lib.hid (HJ.out.grow ((Keeps.refl [] wr).alloc (.cells #[.slice r.AL r.L.length r.cL, .slice r.AW r.W.length r.cW, .int .i64 r.armed, .int .i64 (r.lim : Int), .int .i64 (r.done : Int)] 32)))
      have HBa := Lib.hid (heap_alloc_new wr (.cells #[.slice r.AL r.L.length r.cL, .slice r.AW r.W.length r.cW, .int .i64 r.armed, .int .i64 (r.lim : Int), .int .i64 (r.done : Int)] 32))
      have HGa := Lib.hid (blk_keep HB.out.1 ((Keeps.refl [] wr).alloc (.cells #[.slice r.AL r.L.length r.cL, .slice r.AW r.W.length r.cW, .int .i64 r.armed, .int .i64 (r.lim : Int), .int .i64 (r.done : Int)] 32)) (by simp))
      have hne : wr.heap.size ≠ gB := by
        have := lt_of_heap HB.out.1
        omega
      go_wp2_with fail
      generalize wr.alloc (.cells #[.slice r.AL r.L.length r.cL, .slice r.AW r.W.length r.cW, .int .i64 r.armed, .int .i64 (r.lim : Int), .int .i64 (r.done : Int)] 32) = wa at *
      generalize wr.heap.size = wB at *
      refine (copy_any k _ HPa.out.pair.disk (by have := HPa.out.wait; omega)).mono ?_
      rintro e w5 ⟨ko, rfl, hc5⟩
      have TH := Lib.hid (then_make HPa.out (by omega) hc5 HBa.out ⟨HGa.out, HB.out.2.1, HB.out.2.2.1⟩ hne)
      have HP5 := Lib.hid (HPa.out.grow hc5.keeps)
      have HG5 := Lib.hid (blk_keep HGa.out hc5.keeps (by simp))
      clear hc5 y0 y1 y2 y3 y4 HPa HBa HGa
      go_wp2_with fail
      refine (copy_any k _ HP5.out.pair.disk (by have := HP5.out.wait; omega)).mono ?_
      rintro e w6 ⟨kc, rfl, hc6⟩
      have HP6 := Lib.hid (pi_copied HP5.out hc6)
      have HB6 : Hid (w6.heap[gB]? = some r.box ∧ gB ∉ kc.all ∧ gB ∉ r.all ∧ w.heap.size ≤ gB) := ⟨blk_keep HG5.out hc6.keeps (by simp), hc6.apart HB.out.2.1 (lt_of_heap HG5.out), HB.out.2.2.1, HB.out.2.2.2⟩
      have OLD0 : Hid (Keeps [gB] w5 w6 ∧ ∀ b ∈ kc.fp, w5.heap.size ≤ b) := ⟨hc6.keeps.mono (by simp), hc6.fp⟩
      have HK5 := Lib.hid HP5.out.keeps
      clear hc6 HP5 HG5 HJ HB
      go_wp2_with fail
      go_loopw [14, 15] (fun dv i wr2 => ∃ (j2 : Nat) (kd : Dk) (q : Rf), dv = .pointer (some ⟨kd.p, 0, none⟩) ∧ i = .int .i64 (j2 : Int) ∧ j2 ≤ len2 ∧ Hid (PI w size (j + j2) wr2 kd q) ∧ Hid (wr2.heap[gB]? = some q.box ∧ gB ∉ kd.all ∧ gB ∉ q.all ∧ w.heap.size ≤ gB) ∧ Hid (Keeps [gB] w5 wr2 ∧ ∀ b ∈ kd.fp, w5.heap.size ≤ b)) (fun _ i _ => len2 - (intOf i).toNat)
      case atStart => exact ⟨0, kc, r, rfl, rfl, Nat.zero_le _, HP6, HB6, OLD0⟩
      case round =>
        obtain ⟨j2, kd, q0, rfl, rfl, hj2, HJ, HB, OLD⟩ := hrel
        by_cases hlt2 : j2 < len2
        · have hll := HL2.out.len
          have hx : l2[j2]? = some (l2[j2]'(by omega)) := List.getElem?_eq_getElem (by omega)
          obtain ⟨b, o, hA, ho⟩ := HL2.out.at_ j2 _ hx
          generalize l2[j2]'(by omega) = x at *
          subst hA
          have ho' := ho.keep HJ.out.keeps
          have x0 := ho'.c0
          have x1 := ho'.c1
          have x2 := ho'.c2
          have x3 := ho'.c3
          have x4 := ho'.c4
          have x5 := ho'.c5
          have HX := Lib.hid ho'
          have HO := Lib.hid ho
          have nbg : ¬ b = gB := by
            have h5 : b < w.heap.size := lt_of_cell ho.c0
            have h6 := HB.out.2.2.2
            omega
          clear hx ho ho' hll
          obtain ⟨⟨y0, y1, y2, y3, y4⟩, _⟩ := five_facts HB.out.1
          have HD := fun W (hk : Keeps [] wr W) => Lib.hid (pi_does (HJ.out.grow hk) (by omega) (HX.out.keep hk))
          unfold Rf.v ActD.v at HD
          go_wp2_with fail
          go_region_with (first
            | (go_at_call 13; refine (HD _ (Keeps.refl [] wr).drew).out.mono ?_; rintro e w1 ⟨k', q, rfl, hwt⟩; obtain ⟨hp2, hb2, hx2, hz1, hz2⟩ := pi_behind HJ.out HB.out HO.out (Keeps.refl [] wr).drew hwt; obtain ⟨⟨v0, v1, v2, v3, v4⟩, ⟨e0, e1, e2, e3, e4⟩⟩ := five_facts hb2.1; have i0 := hx2.c0; have i1 := hx2.c1; have i2 := hx2.c2; have i3 := hx2.c3; have i4 := hx2.c4; have i5 := hx2.c5; have HL3 := Lib.hid (pi_laid hp2 hb2 HB.out.2.2.2); have HO3 := Lib.hid (old_went OLD.out.1 OLD.out.2 (Keeps.refl [] wr).drew hwt (.slice q.AL q.L.length q.cL) (.slice q.AW q.W.length q.cW) (.int .i64 q.armed) (.int .i64 (q.lim : Int)) (.int .i64 (q.done : Int)))))
          all_goals
            go_wp2_with fail
            go_roundw
            case rel => exact ⟨j2 + 1, k', q, rfl, by go_num, by omega, HL3.out.1, HL3.out.2, HO3⟩
            case measure => simp [intOf]; omega
        · have FN := Lib.hid ((fin_make TH.out OLD.out.1 HJ.out (by omega) HB.out.1).grow (Keeps.refl [] wr).drew)
          have KN := Lib.hid (HJ.out.keeps.trans' (Keeps.refl [] wr).drew)
          have FM := Lib.hid (fin_make TH.out OLD.out.1 HJ.out (by omega) HB.out.1)
          obtain ⟨⟨s0, s1, s2, s3, s4⟩, _⟩ := five_facts FM.out.bw
          obtain ⟨⟨t0, t1, t2, t3, t4⟩, _⟩ := five_facts FM.out.bg
          clear HL2 TH OLD HJ HB HP6 HB6 OLD0 HK5 FM
          go_wp2_with fail
          go_region_held (fun w' => (w'.cell? ⟨wB, 0, none⟩ = some (.slice r.AL r.L.length r.cL) ∧ w'.cell? ⟨wB, 1, none⟩ = some (.slice r.AW r.W.length r.cW) ∧ w'.cell? ⟨wB, 2, none⟩ = some (.int .i64 r.armed) ∧ w'.cell? ⟨wB, 3, none⟩ = some (.int .i64 (r.lim : Int)) ∧ w'.cell? ⟨wB, 4, none⟩ = some (.int .i64 (r.done : Int))) ∧ w'.cell? ⟨gB, 0, none⟩ = some (.slice q0.AL q0.L.length q0.cL) ∧ w'.cell? ⟨gB, 1, none⟩ = some (.slice q0.AW q0.W.length q0.cW) ∧ w'.cell? ⟨gB, 2, none⟩ = some (.int .i64 q0.armed) ∧ w'.cell? ⟨gB, 3, none⟩ = some (.int .i64 (q0.lim : Int)) ∧ w'.cell? ⟨gB, 4, none⟩ = some (.int .i64 (q0.done : Int))) (go_keep) (first
            | (go_at_call_of 14 (Value.pointer (some ⟨k.p, 0, none⟩)); refine (fin_then FN.out).mono ?_; rintro e wn ⟨rfl, hk⟩; have FN := Lib.hid (FN.out.grow hk); have KN := Lib.hid (KN.out.trans' hk); obtain ⟨⟨s0, s1, s2, s3, s4⟩, _⟩ := five_facts FN.out.bw; obtain ⟨⟨t0, t1, t2, t3, t4⟩, _⟩ := five_facts FN.out.bg; clear hk)
            | (go_at_call_of 14 (Value.pointer (some ⟨kd.p, 0, none⟩)); refine (fin_now FN.out).mono ?_; rintro e wn ⟨rfl, hk⟩; have FN := Lib.hid (FN.out.grow hk); have KN := Lib.hid (KN.out.trans' hk); obtain ⟨⟨s0, s1, s2, s3, s4⟩, _⟩ := five_facts FN.out.bw; obtain ⟨⟨t0, t1, t2, t3, t4⟩, _⟩ := five_facts FN.out.bg; clear hk)
            | (go_at_call_of 24 (Value.pointer (some ⟨ko.p, 0, none⟩)); refine (fin_old FN.out).mono ?_; rintro e wn ⟨rfl, hk⟩; have FN := Lib.hid (FN.out.grow hk); have KN := Lib.hid (KN.out.trans' hk); obtain ⟨⟨s0, s1, s2, s3, s4⟩, _⟩ := five_facts FN.out.bw; obtain ⟨⟨t0, t1, t2, t3, t4⟩, _⟩ := five_facts FN.out.bg; clear hk)
            | (go_at_call_of 24 (Value.pointer (some ⟨k.p, 0, none⟩)); refine (fin_apart FN.out).mono ?_; rintro e wn ⟨rfl, hk⟩; have FN := Lib.hid (FN.out.grow hk); have KN := Lib.hid (KN.out.trans' hk); obtain ⟨⟨s0, s1, s2, s3, s4⟩, _⟩ := five_facts FN.out.bw; obtain ⟨⟨t0, t1, t2, t3, t4⟩, _⟩ := five_facts FN.out.bg; clear hk)
            | (go_at_call_of 24 (Value.pointer (some ⟨kd.p, 0, none⟩)); refine (fin_self FN.out).mono ?_; rintro e wn ⟨rfl, hk⟩; have FN := Lib.hid (FN.out.grow hk); have KN := Lib.hid (KN.out.trans' hk); obtain ⟨⟨s0, s1, s2, s3, s4⟩, _⟩ := five_facts FN.out.bw; obtain ⟨⟨t0, t1, t2, t3, t4⟩, _⟩ := five_facts FN.out.bg; clear hk)
            | (go_at_call 25; refine (fin_ref FN.out).mono ?_; rintro e wn ⟨rfl, hk⟩; have FN := Lib.hid (FN.out.grow hk); have KN := Lib.hid (KN.out.trans' hk); obtain ⟨⟨s0, s1, s2, s3, s4⟩, _⟩ := five_facts FN.out.bw; obtain ⟨⟨t0, t1, t2, t3, t4⟩, _⟩ := five_facts FN.out.bg; clear hk)
            | (go_at_call 10; refine (fin_known _).mono ?_; rintro e wn ⟨rfl, hk⟩; have FN := Lib.hid (FN.out.grow hk); have KN := Lib.hid (KN.out.trans' hk); obtain ⟨⟨s0, s1, s2, s3, s4⟩, _⟩ := five_facts FN.out.bw; obtain ⟨⟨t0, t1, t2, t3, t4⟩, _⟩ := five_facts FN.out.bg; clear hk))
          all_goals
            go_wp2_with fail
            go_ret
            exact ⟨rfl, KN.out.below (Nat.le_refl _) (by simp)⟩

end Go.Proofs.Ytadpomclnhemoaa
