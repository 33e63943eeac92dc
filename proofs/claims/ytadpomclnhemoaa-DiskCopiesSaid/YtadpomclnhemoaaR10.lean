/- The document's Same. -/
import Derived.Test.YtadpomclnhemoaaR9
import Derived.Test.YtadpomclnhemoaaD17
import Derived.Deep.RegionHeld
import Derived.Deep.QuietTactic
import Derived.BigQuiet
namespace Go.Proofs.Ytadpomclnhemoaa
open Go.RowKit
set_option linter.unusedVariables false

set_option maxHeartbeats 2000000 in
theorem refsame_no (r q : Rf) (w : World) (h : RefAt w r) (g : RefAt w q) (hne : ¬ (r.L = q.L ∧ r.W.length = q.W.length ∧ r.armed = q.armed ∧ r.lim = q.lim)) :
    Calls Try.prog 25 #[r.v, q.v] w fun e w' => e = .returned (.bool false) ∧ Below w.heap.size w w' := by
  have kk : ∀ o1 o2 : Obj, Keeps [] w ((w.alloc o1).alloc o2) := fun o1 o2 => ((Keeps.refl [] w).alloc o1).alloc o2
  have v1 := fun o1 o2 => conv_bytes (h.la.grow (kk o1 o2))
  have v2 := fun o1 o2 => conv_bytes (g.la.grow (kk o1 o2))
  unfold Rf.lv at v1 v2
  have HNE := Lib.hid hne
  clear h g kk hne
  unfold Rf.v
  go_enter Try.func25, Try.ntmps25
  go_wp2_with fail
  all_goals first
    | (go_ret; exact ⟨rfl, ((Below.refl _ _).alloc (Nat.le_refl _) _).alloc (by simp) _⟩)
    | exact absurd ⟨by assumption, by omega, by assumption, by have h5 : (r.lim : Int) = q.lim := (by simpa using ‹((r.lim : Int) != (q.lim : Int)) = false›); omega⟩ HNE.out

set_option maxHeartbeats 8000000 in
theorem refsame_walk (A A' B B' : Option Addr) (c c' m n d d' : Nat) (L : List UInt8) (W V : List Wt) (armed : Int) (lim done done' : Nat) (w : World) (hL : L.length = m) (h1 : BytesAt w (.slice A m c) L) (h2 : BytesAt w (.slice A' m c') L)
    (hW : w.ownsRow 0 88 2 (.slice B n d) n (wcells W)) (hV : w.ownsRow 0 88 2 (.slice B' n d') n (wcells V)) (hn : W.length = n) (hm : V.length = n) (hn2 : n ≤ 1000000)
    (hw : ∀ x ∈ W, BytesAt w x.v x.xs ∧ x.off ≤ 262144) (hv : ∀ x ∈ V, BytesAt w x.v x.xs ∧ x.off ≤ 262144) :
    Calls Try.prog 25 #[.agg #[.slice A m c, .slice B n d, .int .i64 armed, .int .i64 (lim : Int), .int .i64 (done : Int)], .agg #[.slice A' m c', .slice B' n d', .int .i64 armed, .int .i64 (lim : Int), .int .i64 (done' : Int)]] w fun e w' => e = .returned (.bool (sameWs (wdat W) (wdat V))) ∧ Below w.heap.size w w' := by
  have kk : ∀ o1 o2 : Obj, Keeps [] w ((w.alloc o1).alloc o2) := fun o1 o2 => ((Keeps.refl [] w).alloc o1).alloc o2
  have v1 := fun o1 o2 => conv_bytes (h1.grow (kk o1 o2))
  have v2 := fun o1 o2 => conv_bytes (h2.grow (kk o1 o2))
  have HW := Lib.hid hW
  have HV := Lib.hid hV
  have HN := Lib.hid hn
  have HM := Lib.hid hm
  have HBW := Lib.hid hw
  have HBV := Lib.hid hv
  clear hW hV hn hm hw hv kk h1 h2
  go_enter Try.func25, Try.ntmps25
  go_wp2_with fail
  clear v1 v2
  have HB0 : Hid (((w.alloc (.cells #[.slice A m c, .slice B n d, .int .i64 armed, .int .i64 (lim : Int), .int .i64 (done : Int)] 32)).alloc (.cells #[.slice A' m c', .slice B' n d', .int .i64 armed, .int .i64 (lim : Int), .int .i64 (done' : Int)] 32)).heap[w.heap.size]? = some (.cells #[.slice A m c, .slice B n d, .int .i64 armed, .int .i64 (lim : Int), .int .i64 (done : Int)] 32 (0, 0))) := (Below.heap_alloc _ _ _ (by simp)).trans (heap_alloc_new w _)
  have HB1 : Hid (((w.alloc (.cells #[.slice A m c, .slice B n d, .int .i64 armed, .int .i64 (lim : Int), .int .i64 (done : Int)] 32)).alloc (.cells #[.slice A' m c', .slice B' n d', .int .i64 armed, .int .i64 (lim : Int), .int .i64 (done' : Int)] 32)).heap[w.heap.size + 1]? = some (.cells #[.slice A' m c', .slice B' n d', .int .i64 armed, .int .i64 (lim : Int), .int .i64 (done' : Int)] 32 (0, 0))) := by
    have h := heap_alloc_new (w.alloc (.cells #[.slice A m c, .slice B n d, .int .i64 armed, .int .i64 (lim : Int), .int .i64 (done : Int)] 32)) (.cells #[.slice A' m c', .slice B' n d', .int .i64 armed, .int .i64 (lim : Int), .int .i64 (done' : Int)] 32)
    rw [World.size_alloc] at h
    exact h
  have HK0 : Hid (Keeps [] w ((w.alloc (.cells #[.slice A m c, .slice B n d, .int .i64 armed, .int .i64 (lim : Int), .int .i64 (done : Int)] 32)).alloc (.cells #[.slice A' m c', .slice B' n d', .int .i64 armed, .int .i64 (lim : Int), .int .i64 (done' : Int)] 32))) := ((Keeps.refl [] w).alloc _).alloc _
  go_loopw [5] (fun i wr => ∃ j : Nat, i = .int .i64 (j : Int) ∧ j ≤ n ∧ Hid (sameWs (wdat (W.take j)) (wdat (V.take j)) = true) ∧ Hid (Keeps [] w wr) ∧ Hid (wr.heap[w.heap.size]? = some (.cells #[.slice A m c, .slice B n d, .int .i64 armed, .int .i64 (lim : Int), .int .i64 (done : Int)] 32 (0, 0))) ∧ Hid (wr.heap[w.heap.size + 1]? = some (.cells #[.slice A' m c', .slice B' n d', .int .i64 armed, .int .i64 (lim : Int), .int .i64 (done' : Int)] 32 (0, 0)))) (fun i _ => n - (intOf i).toNat)
  case atStart => exact ⟨0, rfl, Nat.zero_le _, by show sameWs _ _ = true; simp [wdat, sameWs], HK0, HB0, HB1⟩
  case round =>
    obtain ⟨j, rfl, hj, HJ, HK, HX0, HX1⟩ := hrel
    have p1 := cell_of_blk HX0.out 1
    have q1 := cell_of_blk HX1.out 1
    simp at p1 q1
    by_cases hlt : j < n
    · obtain ⟨g, x, rx, rfl, hx, hxl, hxn, hxm, hgl, x0, x1⟩ := pick_of (own_keep HW.out HK.out (by simp)) HN.out hlt
      obtain ⟨f, y, ry, rfl, hy, hyl, hyn, hym, hfl, y0, y1⟩ := pick_of (own_keep HV.out HK.out (by simp)) HM.out hlt
      have bx := (HBW.out x hxm).1.grow HK.out
      have by' := (HBV.out y hym).1.grow HK.out
      have ox := (HBW.out x hxm).2
      have oy := (HBV.out y hym).2
      obtain ⟨Ax, cx, ex, _⟩ := id bx
      obtain ⟨Ay, cy, ey, _⟩ := id by'
      rw [ex] at x1 bx
      rw [ey] at y1 by'
      have BX := Lib.hid bx
      have BY := Lib.hid by'
      have HX := Lib.hid hx
      have HY := Lib.hid hy
      have HXN := Lib.hid hxn
      have HYN := Lib.hid hyn
      have HL : Hid ((W.take j).length = (V.take j).length) := by show _ = _; rw [hxl, hyl]
      clear hx hy hxn hyn hxl hyl ex ey bx by'
      have v1' := conv_bytes (BX.out.grow (Keeps.refl [] wr).drew)
      have v2' := conv_bytes (BY.out.grow (Keeps.refl [] wr).drew)
      have HD := Lib.hid (HK.out.trans' (Keeps.refl [] wr).drew)
      have HXD := Lib.hid (blk_keep HX0.out (Keeps.refl [] wr).drew (by simp))
      have HYD := Lib.hid (blk_keep HX1.out (Keeps.refl [] wr).drew (by simp))
      by_cases ho : x.off = y.off
      · have g1 : ((x.off : Int) != (y.off : Int)) = false := by simp; omega
        by_cases hb : x.xs = y.xs
        · have HN2 : Hid (sameWs (wdat (W.take (j + 1))) (wdat (V.take (j + 1))) = true) := by
            show _ = _
            rw [HXN.out, HYN.out, wdat_snoc, wdat_snoc]
            exact sameWs_snoc (by simpa [wdat] using HL.out) HJ.out (by simp [sameW, ho, hb])
          have g2 : (x.xs == y.xs) = true := by simp [hb]
          clear ho hb
          go_wp2_with fail
          go_region_held (fun w' => w'.cell? ⟨w.heap.size, 1, none⟩ = some (.slice (some ⟨g, 0, none⟩) n d) ∧ w'.cell? ⟨w.heap.size + 1, 1, none⟩ = some (.slice (some ⟨f, 0, none⟩) n d') ∧ w'.cell? ⟨g, j * 2, none⟩ = some (.int .i64 (x.off : Int)) ∧ w'.cell? ⟨g, j * 2 + 1, none⟩ = some (.slice Ax x.xs.length cx) ∧ w'.cell? ⟨f, j * 2, none⟩ = some (.int .i64 (y.off : Int)) ∧ w'.cell? ⟨f, j * 2 + 1, none⟩ = some (.slice Ay y.xs.length cy) ∧ Sem.run Try.prog (convert 29 9 (.slice Ax x.xs.length cx)) w' = .ok (.string ⟨x.xs.toArray⟩) w' ∧ Sem.run Try.prog (convert 29 9 (.slice Ay y.xs.length cy)) w' = .ok (.string ⟨y.xs.toArray⟩) w') (go_keep) (fail)
          all_goals
            go_wp2_with fail
            go_roundw
            case rel => exact ⟨j + 1, by go_num, by omega, HN2, HD, HXD, HYD⟩
            case measure => simp [intOf]; omega
        · have HN2 : Hid (sameWs (wdat W) (wdat V) = false) := by
            show _ = _
            rw [wdat_cons HX.out, wdat_cons HY.out, sameWs_split (by simpa [wdat] using HL.out) HJ.out]
            simp [sameW, hb]
          have g2 : (x.xs == y.xs) = false := by simp [hb]
          clear ho hb
          go_wp2_with fail
          go_region_held (fun w' => w'.cell? ⟨w.heap.size, 1, none⟩ = some (.slice (some ⟨g, 0, none⟩) n d) ∧ w'.cell? ⟨w.heap.size + 1, 1, none⟩ = some (.slice (some ⟨f, 0, none⟩) n d') ∧ w'.cell? ⟨g, j * 2, none⟩ = some (.int .i64 (x.off : Int)) ∧ w'.cell? ⟨g, j * 2 + 1, none⟩ = some (.slice Ax x.xs.length cx) ∧ w'.cell? ⟨f, j * 2, none⟩ = some (.int .i64 (y.off : Int)) ∧ w'.cell? ⟨f, j * 2 + 1, none⟩ = some (.slice Ay y.xs.length cy) ∧ Sem.run Try.prog (convert 29 9 (.slice Ax x.xs.length cx)) w' = .ok (.string ⟨x.xs.toArray⟩) w' ∧ Sem.run Try.prog (convert 29 9 (.slice Ay y.xs.length cy)) w' = .ok (.string ⟨y.xs.toArray⟩) w') (go_keep) (fail)
          all_goals
            go_wp2_with fail
            go_ret
            exact ⟨by rw [HN2.out]; rfl, HD.out.below (Nat.le_refl _) (by simp)⟩
      · have g1 : ((x.off : Int) != (y.off : Int)) = true := by simp; omega
        have HN2 : Hid (sameWs (wdat W) (wdat V) = false) := by
          show _ = _
          rw [wdat_cons HX.out, wdat_cons HY.out, sameWs_split (by simpa [wdat] using HL.out) HJ.out]
          simp [sameW, ho]
        clear ho
        go_wp2_with fail
        go_quiet (fail)
        all_goals
          go_wp2_with fail
          go_ret
          exact ⟨by rw [HN2.out]; rfl, (HK.out.drewN _).below (Nat.le_refl _) (by simp)⟩
    · go_wp2_with fail
      go_ret
      have hs := HJ.out
      rw [List.take_of_length_le (by have := HN.out; omega), List.take_of_length_le (by have := HM.out; omega)] at hs
      exact ⟨by rw [hs]; rfl, HK.out.below (Nat.le_refl _) (by simp)⟩

theorem sameWs_eq : ∀ {D E : List (Nat × List UInt8)}, sameWs D E = true → D = E := by
  intro D
  induction D with
  | nil =>
    intro E h
    cases E with
    | nil => rfl
    | cons y E => simp [sameWs] at h
  | cons x D ih =>
    intro E h
    cases E with
    | nil => simp [sameWs] at h
    | cons y E =>
      simp only [sameWs, sameW, Bool.and_eq_true, beq_iff_eq] at h
      rw [ih h.2, show x = y from Prod.ext h.1.1 h.1.2]

theorem sameWs_self : ∀ (D : List (Nat × List UInt8)), sameWs D D = true := by
  intro D
  induction D with
  | nil => rfl
  | cons x D ih => simp [sameWs, sameW, ih]

theorem sameDat_self (d : Dat) : sameDat d d = true := by simp [sameDat, sameWs_self]

end Go.Proofs.Ytadpomclnhemoaa
