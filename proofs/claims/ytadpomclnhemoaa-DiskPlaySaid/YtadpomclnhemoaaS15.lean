/- DiskPlay: the walk. -/
import Derived.Test.YtadpomclnhemoaaS14
namespace Go.Proofs.Ytadpomclnhemoaa
open Go.RowKit
set_option linter.unusedVariables false

set_option maxHeartbeats 8000000 in
theorem diskplay_try (size : Nat) (A : Option Addr) (len c : Nat) (l : List ActD) (w : World) (h1 : 1 ≤ size) (h2 : size ≤ 300) (h3 : len ≤ 40) (hl : ActsAt w A len l) (hall : (l.all fun x => decide (x.bs.length ≤ 100)) = true) :
    Calls Try.prog 3 #[.int .i64 (size : Int), .slice A len c] w fun e w' => e = .returned (.bool true) ∧ Below w.heap.size w w' := by
  have HL := Lib.hid hl
  have HA := Lib.hid hall
  have FW : ∀ W : World, Keeps [] w W → Hid (Calls Try.prog 9 #[.int .i64 (size : Int), .slice A len c] W fun e w' => e = .returned (.bool true) ∧ W = w') := by
    intro W hW
    have := few_in (size : Int) A len c l W (by omega) (by omega) (hl.keep hW)
    rw [hall] at this
    exact this
  have HF := Lib.hid FW
  clear hl hall FW
  go_enter Try.func3, Try.ntmps3
  go_wp2_with fail
  refine (HF.out _ (Keeps.refl [] w)).out.mono ?_
  rintro e w' ⟨rfl, rfl⟩
  go_wp2_with fail
  refine (new_yes size _ h1 (by omega)).mono ?_
  rintro e w1 ⟨k, rfl, hd1, hS1, hL1, hW1, hl1, hf1, ho1, hn1, hk1⟩
  have K1 := Lib.hid hk1
  have HD1 := Lib.hid (And.intro hd1 (And.intro hS1 (And.intro hL1 (And.intro hW1 (And.intro hl1 (And.intro hf1 (And.intro ho1 hn1)))))))
  clear hd1 hS1 hL1 hW1 hl1 hf1 ho1 hn1 hk1 HF
  go_wp2_with fail
  refine (refnew_yes size _ h1 (by omega)).mono ?_
  rintro e w2 ⟨r, rfl, hr2, hrL, hrW, hra, hrl, hr0, hrn, hb2⟩
  have HP0 : Hid (PI w size 0 w2 k r) := by
    obtain ⟨hd1, hS1, hL1, hW1, hl1, hf1, ho1, hn1⟩ := HD1.out
    exact ⟨pair_new (w := w) hd1 hS1 hL1 hW1 hl1 hf1 ho1 (Keeps.of_below hb2) hr2 hrL hrW hrl hra hr0 hrn, fun b hb => hn1 b (fp_sub hb), K1.out.trans' (Keeps.of_below hb2), by rw [hS1]; simp, by rw [hW1]; simp, by omega⟩
  clear hr2 hrL hrW hra hrl hr0 hrn hb2 HD1 K1
  unfold Rf.v
  go_wp2_with fail
  have HB0 : Hid ((w2.alloc r.box).heap[w2.heap.size]? = some r.box ∧ w2.heap.size ∉ k.all ∧ w2.heap.size ∉ r.all ∧ w.heap.size ≤ w2.heap.size) := ⟨heap_alloc_new w2 r.box, fun hm => by have := HP0.out.pair.disk.lt _ hm; omega, fun hm => by have := HP0.out.pair.ref.lt _ hm; omega, HP0.out.keeps.size⟩
  have HP1 := Lib.hid (HP0.out.grow ((Keeps.refl [] w2).alloc r.box))
  generalize w2.heap.size = gB at *
  clear HP0
  go_loopw [5, 9] (fun dv i wr => ∃ (j : Nat) (k : Dk) (r : Rf), dv = .pointer (some ⟨k.p, 0, none⟩) ∧ i = .int .i64 (j : Int) ∧ j ≤ len ∧ Hid (PI w size j wr k r) ∧ Hid (wr.heap[gB]? = some r.box ∧ gB ∉ k.all ∧ gB ∉ r.all ∧ w.heap.size ≤ gB)) (fun _ i _ => len - (intOf i).toNat)
  case atStart => exact ⟨0, k, r, rfl, rfl, Nat.zero_le _, HP1, HB0⟩
  case round =>
    obtain ⟨j, k, r, rfl, rfl, hj, HJ, HB⟩ := hrel
    by_cases hlt : j < len
    · have hll := HL.out.len
      have hx : l[j]? = some (l[j]'(by omega)) := List.getElem?_eq_getElem (by omega)
      obtain ⟨b, o, hA, ho⟩ := HL.out.at_ j _ hx
      generalize l[j]'(by omega) = x at *
      subst hA
      have ho' := ho.keep HJ.out.keeps
      have x0 := ho'.c0
      have x1 := ho'.c1
      have x2 := ho'.c2
      have x3 := ho'.c3
      have x4 := ho'.c4
      have x5 := ho'.c5
      have HX := Lib.hid ho'
      have HO := Lib.hid ho
      clear hx ho ho' hll
      obtain ⟨⟨y0, y1, y2, y3, y4⟩, ⟨f0, f1, f2, f3, f4⟩⟩ := five_facts HB.out.1
      have hgB : gB < wr.heap.size := lt_of_heap HB.out.1
      have HD := fun W (hk : Keeps [] wr W) => Lib.hid (pi_does (HJ.out.grow hk) (by omega) (HX.out.keep hk))
      unfold Rf.v ActD.v at HD
      have n1 : ¬ gB = wr.heap.size := by omega
      have n2 : ¬ wr.heap.size = gB := by omega
      have hbw : b < wr.heap.size := lt_of_cell x0
      have n3 : ¬ b = wr.heap.size := by omega
      have n4 : ¬ wr.heap.size = b := by omega
      go_wp2_with fail
      go_region_held (fun w' => (w'.cell? ⟨gB, 0, none⟩ = some (.slice r.AL r.L.length r.cL) ∧ w'.cell? ⟨gB, 1, none⟩ = some (.slice r.AW r.W.length r.cW) ∧ w'.cell? ⟨gB, 2, none⟩ = some (.int .i64 r.armed) ∧ w'.cell? ⟨gB, 3, none⟩ = some (.int .i64 (r.lim : Int)) ∧ w'.cell? ⟨gB, 4, none⟩ = some (.int .i64 (r.done : Int))) ∧ w'.cell? ⟨b, o + j * 6, none⟩ = some (.int .i64 x.kind) ∧ w'.cell? ⟨b, o + j * 6 + 1, none⟩ = some (.int .i64 x.at_) ∧ w'.cell? ⟨b, o + j * 6 + 2, none⟩ = some (.int .i64 x.n) ∧ w'.cell? ⟨b, o + j * 6 + 3, none⟩ = some (.slice x.A x.bs.length x.c) ∧ w'.cell? ⟨b, o + j * 6 + 4, none⟩ = some (.int .i64 x.keep) ∧ w'.cell? ⟨b, o + j * 6 + 5, none⟩ = some (.int .i64 x.torn)) (go_keep) (first
        | (go_at_call 13; refine (HD _ ((Keeps.refl [] wr).alloc _).drew).out.mono ?_; rintro e w1 ⟨k', q, rfl, hwt⟩; obtain ⟨hp2, hb2, hx2, hz1, hz2⟩ := pi_behind HJ.out HB.out HO.out ((Keeps.refl [] wr).alloc _).drew hwt; have hm2 := pi_made HJ.out hwt; obtain ⟨⟨v0, v1, v2, v3, v4⟩, ⟨e0, e1, e2, e3, e4⟩⟩ := five_facts hb2.1; obtain ⟨⟨z0, z1, z2, z3, z4⟩, ⟨g0, g1, g2, g3, g4⟩⟩ := five_facts hm2.1; have i0 := hx2.c0; have i1 := hx2.c1; have i2 := hx2.c2; have i3 := hx2.c3; have i4 := hx2.c4; have i5 := hx2.c5; have HJ2 := Lib.hid (pj_early hp2 hb2 HB.out.2.2.2 hm2 HJ.out.keeps.size n1))
        | (go_at_call 13; refine (HD _ (Keeps.refl [] wr).drew).out.mono ?_; rintro e w1 ⟨k', q, rfl, hwt⟩; obtain ⟨hp2, hb2, hx2, hz1, hz2⟩ := pi_behind HJ.out HB.out HO.out (Keeps.refl [] wr).drew hwt; obtain ⟨⟨v0, v1, v2, v3, v4⟩, ⟨e0, e1, e2, e3, e4⟩⟩ := five_facts hb2.1; have i0 := hx2.c0; have i1 := hx2.c1; have i2 := hx2.c2; have i3 := hx2.c3; have i4 := hx2.c4; have i5 := hx2.c5; have HJ2 := Lib.hid (pj_late hp2 hb2 HB.out.2.2.2)))
      all_goals
        clear hz1 hz2 hp2 hb2 hx2 hwt v0 v1 v2 v3 v4 e0 e1 e2 e3 e4 i0 i1 i2 i3 i4 i5 x0 x1 x2 x3 x4 x5 y0 y1 y2 y3 y4 f0 f1 f2 f3 f4 HD HX HO HJ HB hbw n1 n2 n3 n4
      case' _ =>
        generalize w1.heap.size = bx at *
        generalize w1.alloc (.cells #[.slice q.AL q.L.length q.cL, .slice q.AW q.W.length q.cW, .int .i64 q.armed, .int .i64 (q.lim : Int), .int .i64 (q.done : Int)] 32) = W at *
      rotate_left
      case' _ =>
        clear z0 z1 z2 z3 z4 g0 g1 g2 g3 g4 hm2
        generalize wr.heap.size = bx at *
        generalize ((((w1.setCell ⟨bx, 0, none⟩ (.slice q.AL q.L.length q.cL)).setCell ⟨bx, 1, none⟩ (.slice q.AW q.W.length q.cW)).setCell ⟨bx, 2, none⟩ (.int .i64 q.armed)).setCell ⟨bx, 3, none⟩ (.int .i64 (q.lim : Int))).setCell ⟨bx, 4, none⟩ (.int .i64 (q.done : Int)) = W at *
      all_goals
        obtain ⟨⟨y0, y1, y2, y3, y4⟩, _⟩ := five_facts HJ2.out.new
        have SM := Lib.hid (pi_same HJ2.out.pi (by omega))
        unfold Rf.v at SM
        have nbx := HJ2.out.ne
        go_wp2_with fail
        refine SM.out.mono ?_
        rintro e w3 ⟨rfl, hk3⟩
        have HJ3 := Lib.hid (HJ2.out.grow hk3)
        clear SM hk3 HJ2 y0 y1 y2 y3 y4
        obtain ⟨⟨y0, y1, y2, y3, y4⟩, ⟨f0, f1, f2, f3, f4⟩⟩ := five_facts HJ3.out.old
        obtain ⟨⟨z0, z1, z2, z3, z4⟩, _⟩ := five_facts HJ3.out.new
        have HL3 := Lib.hid HJ3.out.laid
        have HL4 := Lib.hid (And.intro (HL3.out.1.grow ((Keeps.refl [] _).drew)) HL3.out.2)
        go_wp2_with fail
        go_region_held (fun w' => w'.cell? ⟨bx, 0, none⟩ = some (.slice q.AL q.L.length q.cL) ∧ w'.cell? ⟨bx, 1, none⟩ = some (.slice q.AW q.W.length q.cW) ∧ w'.cell? ⟨bx, 2, none⟩ = some (.int .i64 q.armed) ∧ w'.cell? ⟨bx, 3, none⟩ = some (.int .i64 (q.lim : Int)) ∧ w'.cell? ⟨bx, 4, none⟩ = some (.int .i64 (q.done : Int))) (go_keep) (fail)
        all_goals
          go_wp2_with fail
          go_roundw
          case rel => exact ⟨j + 1, k', q, rfl, by go_num, by omega, HL4.out.1, HL4.out.2⟩
          case measure => simp [intOf]; omega
    · go_wp2_with fail
      refine (known_any wr).mono ?_
      rintro e w' ⟨rfl, hb⟩
      have HE := Lib.hid ((HJ.out.keeps.trans' (Keeps.of_below hb)).below (Nat.le_refl _) (by simp))
      clear hb
      go_wp2
      go_ret
      exact ⟨rfl, HE.out⟩

end Go.Proofs.Ytadpomclnhemoaa
