/- DiskReads: the walk. -/
import Derived.Test.YtadpomclnhemoaaS14
namespace Go.Proofs.Ytadpomclnhemoaa
open Go.RowKit
set_option linter.unusedVariables false

theorem bytes_own {w : World} {base : Nat} {A : Option Addr} {n c : Nat} {ys : List UInt8} (h : w.ownsRow base 5 1 (.slice A n c) n (ys.map bv)) (hl : ys.length = n) : BytesAt w (.slice A n c) ys := by
  subst hl
  exact BytesAt.of_own h

set_option maxHeartbeats 8000000 in
theorem diskreads_try (size : Nat) (A : Option Addr) (len c : Nat) (l : List ActD) (a0 a1 : Int) (w : World) (h1 : 1 ≤ size) (h2 : size ≤ 300) (h3 : len ≤ 40) (hl : ActsAt w A len l) (hall : (l.all fun x => decide (x.bs.length ≤ 100)) = true) (i0 : i64 a0) (i1 : i64 a1) :
    Calls Try.prog 4 #[.int .i64 (size : Int), .slice A len c, .agg #[.int .i64 a0, .int .i64 a1]] w fun e w' => e = .returned (.bool true) ∧ Below w.heap.size w w' := by
  have HL := Lib.hid hl
  have HA := Lib.hid hall
  have FW : ∀ W : World, Keeps [] w W → Hid (Calls Try.prog 9 #[.int .i64 (size : Int), .slice A len c] W fun e w' => e = .returned (.bool true) ∧ W = w') := by
    intro W hW
    have := few_in (size : Int) A len c l W (by omega) (by omega) (hl.keep hW)
    rw [hall] at this
    exact this
  have HF := Lib.hid FW
  clear hl hall FW
  go_enter Try.func4, Try.ntmps4
  go_wp2_with fail
  refine (HF.out _ ((Keeps.refl [] w).alloc _)).out.mono ?_
  rintro e w' ⟨rfl, rfl⟩
  go_wp2_with fail
  refine (new_yes size _ h1 (by omega)).mono ?_
  rintro e w1 ⟨k, rfl, hd1, hS1, hL1, hW1, hl1, hf1, ho1, hn1, hk1⟩
  have K1 := Lib.hid hk1
  have HD1 := Lib.hid (And.intro hd1 (And.intro hS1 (And.intro hL1 (And.intro hW1 (And.intro hl1 (And.intro hf1 (And.intro ho1 hn1)))))))
  clear hd1 hS1 hL1 hW1 hl1 hf1 ho1 hn1 hk1 HF
  go_wp2_with fail
  refine (refnew_yes size _ h1 (by omega)).mono ?_
  rintro e w2 ⟨r, rfl, hr2, hrL, hrW, hra, hrl, hr0, hrn, hb2⟩
  have HL0 := Lib.hid (HL.out.keep ((Keeps.refl [] w).alloc (.cells #[.int .i64 a0, .int .i64 a1] 42)))
  have HX0 := Lib.hid (heap_alloc_new w (.cells #[.int .i64 a0, .int .i64 a1] 42))
  have HZ0 : Hid (Keeps [] w (w.alloc (.cells #[.int .i64 a0, .int .i64 a1] 42))) := ((Keeps.refl [] w).alloc _)
  have HS0 : Hid (w.heap.size < (w.alloc (.cells #[.int .i64 a0, .int .i64 a1] 42)).heap.size) := lt_of_heap HX0.out
  generalize w.alloc (.cells #[.int .i64 a0, .int .i64 a1] 42) = w0 at *
  have HP0 : Hid (PI w0 size 0 w2 k r) := by
    obtain ⟨hd1, hS1, hL1, hW1, hl1, hf1, ho1, hn1⟩ := HD1.out
    exact ⟨pair_new (w := w0) hd1 hS1 hL1 hW1 hl1 hf1 ho1 (Keeps.of_below hb2) hr2 hrL hrW hrl hra hr0 hrn, fun b hb => hn1 b (fp_sub hb), K1.out.trans' (Keeps.of_below hb2), by rw [hS1]; simp, by rw [hW1]; simp, by omega⟩
  clear hr2 hrL hrW hra hrl hr0 hrn hb2 HD1 K1
  unfold Rf.v
  go_wp2_with fail
  have HB0 : Hid ((w2.alloc r.box).heap[w2.heap.size]? = some r.box ∧ w2.heap.size ∉ k.all ∧ w2.heap.size ∉ r.all ∧ w0.heap.size ≤ w2.heap.size) := ⟨heap_alloc_new w2 r.box, fun hm => by have := HP0.out.pair.disk.lt _ hm; omega, fun hm => by have := HP0.out.pair.ref.lt _ hm; omega, HP0.out.keeps.size⟩
  have HP1 := Lib.hid (HP0.out.grow ((Keeps.refl [] w2).alloc r.box))
  generalize w2.heap.size = gB at *
  clear HP0 HL
  go_loopw [7, 11] (fun dv i wr => ∃ (j : Nat) (k : Dk) (r : Rf), dv = .pointer (some ⟨k.p, 0, none⟩) ∧ i = .int .i64 (j : Int) ∧ j ≤ len ∧ Hid (PI w0 size j wr k r) ∧ Hid (wr.heap[gB]? = some r.box ∧ gB ∉ k.all ∧ gB ∉ r.all ∧ w0.heap.size ≤ gB)) (fun _ i _ => len - (intOf i).toNat)
  case atStart => exact ⟨0, k, r, rfl, rfl, Nat.zero_le _, HP1, HB0⟩
  case round =>
    obtain ⟨j, k, r, rfl, rfl, hj, HJ, HB⟩ := hrel
    by_cases hlt : j < len
    · have hll := HL0.out.len
      have hx : l[j]? = some (l[j]'(by omega)) := List.getElem?_eq_getElem (by omega)
      obtain ⟨b, o, hA, ho⟩ := HL0.out.at_ j _ hx
      generalize l[j]'(by omega) = x at *
      subst hA
      have ho' := ho.keep HJ.out.keeps
      have x0 := ho'.c0
      have x1 := ho'.c1
      have x2 := ho'.c2
      have x3 := ho'.c3
      have x4 := ho'.c4
      have x5 := ho'.c5
      have HX := Lib.hid ho'
      have HO := Lib.hid ho
      have nbg : ¬ b = gB := by
        have h5 : b < w0.heap.size := lt_of_cell ho.c0
        have h6 := HB.out.2.2.2
        omega
      clear hx ho ho' hll
      obtain ⟨⟨y0, y1, y2, y3, y4⟩, _⟩ := five_facts HB.out.1
      have HD := fun W (hk : Keeps [] wr W) => Lib.hid (pi_does (HJ.out.grow hk) (by omega) (HX.out.keep hk))
      unfold Rf.v ActD.v at HD
      go_wp2_with fail
      go_region_with (first
        | (go_at_call 13; refine (HD _ (Keeps.refl [] wr).drew).out.mono ?_; rintro e w1 ⟨k', q, rfl, hwt⟩; obtain ⟨hp2, hb2, hx2, hz1, hz2⟩ := pi_behind HJ.out HB.out HO.out (Keeps.refl [] wr).drew hwt; obtain ⟨⟨v0, v1, v2, v3, v4⟩, ⟨e0, e1, e2, e3, e4⟩⟩ := five_facts hb2.1; have i0 := hx2.c0; have i1 := hx2.c1; have i2 := hx2.c2; have i3 := hx2.c3; have i4 := hx2.c4; have i5 := hx2.c5; have HL3 := Lib.hid (pi_laid hp2 hb2 HB.out.2.2.2)))
      all_goals
        go_wp2_with fail
        go_roundw
        case rel => exact ⟨j + 1, k', q, rfl, by go_num, by omega, HL3.out.1, HL3.out.2⟩
        case measure => simp [intOf]; omega
    · have hbx := blk_keep HX0.out HJ.out.keeps (by simp)
      have z0 := cell_of_blk hbx 0
      have z1 := cell_of_blk hbx 1
      simp at z0 z1
      have HBX := Lib.hid hbx
      have hmn := HJ.out.many
      clear hbx
      by_cases hn : a1 < 0
      · have RD := Lib.hid (read_neg k a0 a1 wr HJ.out.pair.disk hn)
        go_wp2_with fail
        refine RD.out.mono ?_
        rintro e w3 ⟨rfl, rfl⟩
        clear RD
        go_wp2_with fail
        all_goals
          refine (known_any _).mono ?_
          rintro e w4 ⟨rfl, hb4⟩
          have HE := Lib.hid ((HZ0.out.trans' (HJ.out.keeps.trans' (Keeps.of_below hb4))).below (Nat.le_refl _) (by simp))
          clear hb4
          go_wp2
          go_ret
          exact ⟨rfl, HE.out⟩
      by_cases hr : ¬ (0 ≤ a0 ∧ a0 ≤ (size : Int) - a1)
      · have RD := Lib.hid (read_no k a0 a1 wr HJ.out.pair.disk (by omega) (by obtain ⟨_, h⟩ := i1; exact h) (by rw [hmn]; exact hr))
        go_wp2_with fail
        refine RD.out.mono ?_
        rintro e w3 ⟨rfl, rfl⟩
        clear RD
        go_wp2_with fail
        all_goals
          refine (known_any _).mono ?_
          rintro e w4 ⟨rfl, hb4⟩
          have HE := Lib.hid ((HZ0.out.trans' (HJ.out.keeps.trans' (Keeps.of_below hb4))).below (Nat.le_refl _) (by simp))
          clear hb4
          go_wp2
          go_ret
          exact ⟨rfl, HE.out⟩
      have hr' : 0 ≤ a0 ∧ a0 ≤ (size : Int) - a1 := Classical.not_not.1 hr
      obtain ⟨off, rfl⟩ := Int.eq_ofNat_of_zero_le hr'.1
      obtain ⟨n, rfl⟩ := Int.eq_ofNat_of_zero_le (show 0 ≤ a1 by omega)
      have RD := Lib.hid (read_yes k off n wr HJ.out.pair.disk (by omega))
      go_wp2_with fail
      refine RD.out.mono ?_
      rintro e w3 ⟨A3, c3, rfl, ho3, hb3⟩
      have HO3 := Lib.hid ho3
      have HB3 := Lib.hid hb3
      have hbx3 := blk_keep HBX.out (Keeps.of_below (bs := []) hb3) (by simp)
      have hbg3 := blk_keep HB.out.1 (Keeps.of_below (bs := []) hb3) (by simp)
      have z0' := cell_of_blk hbx3 0
      have z1' := cell_of_blk hbx3 1
      simp at z0' z1'
      obtain ⟨⟨y0, y1, y2, y3, y4⟩, _⟩ := five_facts hbg3
      have HBX3 := Lib.hid hbx3
      have HBG3 := Lib.hid hbg3
      clear RD ho3 hb3 hbx3 hbg3
      have hfit : off + n ≤ k.S.length := by omega
      have hlo : (off : Int) + (n : Int) ≤ (size : Int) := by omega
      have HNW := Lib.hid (pi_now (HJ.out.grow ((Keeps.of_below HB3.out).drew)) (by omega))
      unfold Rf.v at HNW
      have hSn : ((k.S.drop off).take n).length = n := by simp; omega
      have HBY : Hid (BytesAt w3 (.slice A3 n c3) ((k.S.drop off).take n)) := bytes_own HO3.out hSn
      have v1 := conv_bytes (HBY.out.grow (Keeps.refl [] w3).drew)
      have b1 : 0 ≤ (off : Int) + (n : Int) := by omega
      have b3 : ((off : Int) + (n : Int)).toNat = off + n := by omega
      have b4 : (off : Int) ≤ (off : Int) + (n : Int) := by omega
      have b5 : 0 ≤ (off : Int) := by omega
      have bw : IntKind.i64.wrap ((off : Int) + (n : Int)) = (off : Int) + (n : Int) := IntWalk.i64_in _ (by omega)
      clear hSn
      have hos : 0 < n → off < size := by omega
      go_wp2_with fail
      go_region_held (fun w' => (w'.cell? ⟨gB, 0, none⟩ = some (.slice r.AL r.L.length r.cL) ∧ w'.cell? ⟨gB, 1, none⟩ = some (.slice r.AW r.W.length r.cW) ∧ w'.cell? ⟨gB, 2, none⟩ = some (.int .i64 r.armed) ∧ w'.cell? ⟨gB, 3, none⟩ = some (.int .i64 (r.lim : Int)) ∧ w'.cell? ⟨gB, 4, none⟩ = some (.int .i64 (r.done : Int))) ∧ w'.cell? ⟨w.heap.size, 0, none⟩ = some (.int .i64 (off : Int)) ∧ w'.cell? ⟨w.heap.size, 1, none⟩ = some (.int .i64 (n : Int)) ∧ Sem.run Try.prog (convert 29 9 (.slice A3 n c3)) w' = .ok (.string ⟨((k.S.drop off).take n).toArray⟩) w') (go_keep)
        (first
          | (go_at_call 16; refine HNW.out.mono ?_; rintro e w4 ⟨gg, cc, rfl, ho4, hc4, hm4, hk4⟩; have k4 := (Keeps.refl [] w3).drew.trans' hk4; have q1 := blk_keep HBG3.out k4 (by simp); obtain ⟨⟨s0, s1, s2, s3, s4⟩, _⟩ := five_facts q1; have q2 := blk_keep HBX3.out k4 (by simp); have t0 := cell_of_blk q2 0; have t1 := cell_of_blk q2 1; simp at t0 t1; have v2 := conv_bytes (part_at ho4 off n hfit (if cc = off then some ⟨gg, 0, none⟩ else some ⟨gg, off, none⟩) (fun hp => if_neg (Nat.ne_of_gt (Nat.lt_of_lt_of_le (hos hp) hc4)))); generalize hAX : (if cc = off then (some ⟨gg, 0, none⟩ : Option Addr) else some ⟨gg, off, none⟩) = AX at v2; have v3 := conv_bytes (HBY.out.grow k4); have b2 : (off : Int) + (n : Int) ≤ (cc : Int) := Int.le_trans hlo (Int.ofNat_le.2 hc4); have HQ1 := Lib.hid q1; have HQ2 := Lib.hid q2; have HK4 := Lib.hid k4; clear ho4 hk4 k4 q1 q2)
          | (go_at_call 10; refine (known_any _).mono ?_; rintro e w5 ⟨rfl, hb5⟩; have k5 : Keeps [] w4 w5 := Keeps.of_below hb5; have q1 := blk_keep HQ1.out k5 (by simp); obtain ⟨⟨d0, d1, d2, d3, d4⟩, _⟩ := five_facts q1; have q2 := blk_keep HQ2.out k5 (by simp); have e0 := cell_of_blk q2 0; have e1 := cell_of_blk q2 1; simp at e0 e1; have v4 := conv_bytes (HBY.out.grow (HK4.out.trans' k5)); have HK5 := Lib.hid (HK4.out.trans' k5); clear q1 q2 k5 hb5))
      all_goals
        go_wp2_with fail
        go_ret
        exact ⟨rfl, ((HZ0.out.trans' (HJ.out.keeps.trans' (Keeps.of_below HB3.out))).trans' HK5.out).below (Nat.le_refl _) (by simp)⟩

end Go.Proofs.Ytadpomclnhemoaa
