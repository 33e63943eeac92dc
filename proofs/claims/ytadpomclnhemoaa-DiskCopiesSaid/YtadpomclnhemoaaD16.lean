/- bytes.Equal, sameWrite, EqualFunc over writes, allTrue. -/
import Derived.Test.YtadpomclnhemoaaD15
namespace Go.Proofs.Ytadpomclnhemoaa
open Go.RowKit
set_option linter.unusedVariables false

theorem equal_any (v u : Value) (xs ys : List UInt8) (w : World) (hv : BytesAt w v xs) (hu : BytesAt w u ys) :
    Calls Try.prog 47 #[v, u] w fun e w' => e = .returned (.bool (xs == ys)) ∧ w = w' := by
  have h1 := conv_bytes hv
  have h2 := conv_bytes hu
  obtain ⟨A, c, rfl, _⟩ := hv
  obtain ⟨B, d, rfl, _⟩ := hu
  go_enter Try.func47, Try.ntmps47
  go_wp2
  go_ret
  exact ⟨rfl, rfl⟩

theorem equal_is (v u : Value) (xs ys : List UInt8) (b : Bool) (w : World) (hv : BytesAt w v xs) (hu : BytesAt w u ys) (hb : (xs == ys) = b) :
    Calls Try.prog 47 #[v, u] w fun e w' => e = .returned (.bool b) ∧ w = w' := by
  rw [← hb]
  exact equal_any v u xs ys w hv hu

/-- Do two writes lay the same at the same place? -/
def sameW (x y : Nat × List UInt8) : Bool := x.1 == y.1 && x.2 == y.2

theorem samewrite_any (a b : Nat) (v u : Value) (xs ys : List UInt8) (w : World) (hv : BytesAt w v xs) (hu : BytesAt w u ys) (ha : a ≤ 9223372036854775807) (hb : b ≤ 9223372036854775807) :
    Calls Try.prog 49 #[.agg #[.int .i64 (a : Int), v], .agg #[.int .i64 (b : Int), u]] w fun e w' => e = .returned (.bool (sameW (a, xs) (b, ys))) ∧ Below w.heap.size w w' := by
  have hv0 := hv
  have hu0 := hu
  obtain ⟨A, c, rfl, _⟩ := hv0
  obtain ⟨B, d, rfl, _⟩ := hu0
  by_cases hab : a = b
  · have h1 : ((a : Int) == (b : Int)) = true := by simp [hab]
    have HS : Hid (sameW (a, xs) (b, ys) = (xs == ys)) := by show sameW (a, xs) (b, ys) = _; simp [sameW, hab]
    have HV := Lib.hid hv
    have HU := Lib.hid hu
    clear hv hu hab
    go_enter Try.func49, Try.ntmps49
    go_wp2_with (go_at_call 47; refine (equal_any _ _ xs ys _ (HV.out.grow (((Keeps.refl [] w).alloc _).alloc _)) (HU.out.grow (((Keeps.refl [] w).alloc _).alloc _))).mono ?_; rintro e w' ⟨rfl, rfl⟩)
    go_ret
    exact ⟨by rw [HS.out]; rfl, ((Below.refl _ _).alloc (Nat.le_refl _) _).alloc (by simp) _⟩
  · have h1 : ((a : Int) == (b : Int)) = false := by simp; omega
    have HS : Hid (sameW (a, xs) (b, ys) = false) := by show sameW (a, xs) (b, ys) = _; simp [sameW, hab]
    clear hv hu hab
    go_enter Try.func49, Try.ntmps49
    go_wp2_with fail
    go_ret
    exact ⟨by rw [HS.out]; rfl, ((Below.refl _ _).alloc (Nat.le_refl _) _).alloc (by simp) _⟩

theorem samewrite_is (a b : Nat) (v u : Value) (xs ys : List UInt8) (r : Bool) (w : World) (hv : BytesAt w v xs) (hu : BytesAt w u ys) (ha : a ≤ 9223372036854775807) (hb : b ≤ 9223372036854775807) (hr : sameW (a, xs) (b, ys) = r) :
    Calls Try.prog 49 #[.agg #[.int .i64 (a : Int), v], .agg #[.int .i64 (b : Int), u]] w fun e w' => e = .returned (.bool r) ∧ Below w.heap.size w w' := by
  rw [← hr]
  exact samewrite_any a b v u xs ys w hv hu ha hb

theorem all_take {bs : List Bool} {j : Nat} (h : j < bs.length) : (bs.take (j + 1)).all id = ((bs.take j).all id && bs[j]) := by
  rw [List.take_succ_eq_append_getElem h, List.all_append]
  simp [List.all]

/-- Are two rows of writes the same? -/
def sameWs : List (Nat × List UInt8) → List (Nat × List UInt8) → Bool
  | [], [] => true
  | x :: xs, y :: ys => sameW x y && sameWs xs ys
  | _, _ => false

theorem sameWs_split {X Y : List (Nat × List UInt8)} {x y : Nat × List UInt8} : ∀ {D E : List (Nat × List UInt8)}, D.length = E.length → sameWs D E = true → sameWs (D ++ x :: X) (E ++ y :: Y) = (sameW x y && sameWs X Y) := by
  intro D
  induction D with
  | nil => intro E hl _; cases E with
    | nil => rfl
    | cons e E => simp at hl
  | cons d D ih => intro E hl h; cases E with
    | nil => simp at hl
    | cons e E =>
      simp only [sameWs, Bool.and_eq_true] at h
      simp only [List.cons_append, sameWs, h.1, Bool.true_and]
      exact ih (by simpa using hl) h.2

theorem sameWs_snoc {x y : Nat × List UInt8} {D E : List (Nat × List UInt8)} (hl : D.length = E.length) (h : sameWs D E = true) (hxy : sameW x y = true) : sameWs (D ++ [x]) (E ++ [y]) = true := by
  rw [sameWs_split hl h, hxy]
  rfl

theorem sameWs_len {D E : List (Nat × List UInt8)} (hl : D.length ≠ E.length) : sameWs D E = false := by
  induction D generalizing E with
  | nil => cases E with
    | nil => exact absurd rfl hl
    | cons e E => rfl
  | cons d D ih => cases E with
    | nil => rfl
    | cons e E => simp only [sameWs]; rw [ih (by simpa using hl), Bool.and_false]

theorem alltrue_any (g : Nat) (c : Nat) (bs : List Bool) (w : World) (hl : bs.length ≤ 1000) (hc : ∀ i b, bs[i]? = some b → w.cell? ⟨g, i, none⟩ = some (.bool b)) :
    Calls Try.prog 46 #[.slice (some ⟨g, 0, none⟩) bs.length c] w fun e w' => e = .returned (.bool (bs.all id)) ∧ w = w' := by
  have HC := Lib.hid hc
  clear hc
  go_enter Try.func46, Try.ntmps46
  go_wp2
  go_loop [7] (fun i => ∃ j : Nat, i = .int .i64 (j : Int) ∧ j ≤ bs.length ∧ Hid ((bs.take j).all id = true)) (fun i => bs.length - (intOf i).toNat)
  case atStart => exact ⟨0, rfl, Nat.zero_le _, by show (bs.take 0).all id = true; simp⟩
  case round =>
    obtain ⟨j, rfl, hj, HJ⟩ := hrel
    by_cases hlt : j < bs.length
    · have hb : bs[j]? = some bs[j] := List.getElem?_eq_getElem hlt
      have hcell := HC.out j _ hb
      have hnext := all_take hlt
      cases hbj : bs[j] with
      | true =>
        rw [hbj] at hcell hnext
        have HNX : Hid ((bs.take (j + 1)).all id = true) := by show _ = _; rw [hnext, HJ.out]; rfl
        clear hnext hbj hb
        go_wp2
        go_round
        case rel => exact ⟨j + 1, by go_num, by omega, HNX⟩
        case measure => simp [intOf]; omega
      | false =>
        rw [hbj] at hcell
        have HF : Hid (bs.all id = false) := by
          show _ = _
          rw [List.all_eq_false]
          exact ⟨bs[j], List.getElem_mem hlt, by simp [hbj]⟩
        clear hnext hbj hb
        go_wp2
        go_ret
        exact ⟨by rw [HF.out]; rfl, rfl⟩
    · go_wp2
      go_ret
      have : (bs.take j).all id = true := HJ.out
      rw [List.take_of_length_le (by omega)] at this
      exact ⟨by rw [this]; rfl, rfl⟩

/-- What lies at a row of writes, one of them picked. -/
theorem pick_wt {w : World} {A : Option Addr} {n c j : Nat} {W : List Wt} (hr : w.ownsRow 0 77 2 (.slice A n c) n (wcells W)) (hn : W.length = n) (hj : j < n) :
    ∃ g x rest, A = some ⟨g, 0, none⟩ ∧ W = W.take j ++ x :: rest ∧ (W.take j).length = j ∧ W.take (j + 1) = W.take j ++ [x] ∧ x ∈ W ∧ g < w.heap.size ∧ w.cell? ⟨g, j * 2, none⟩ = some (.int .i64 (x.off : Int)) ∧ w.cell? ⟨g, j * 2 + 1, none⟩ = some x.v := by
  obtain ⟨x, rest, hx⟩ : ∃ x rest, W = W.take j ++ x :: rest := by
    refine ⟨W[j]'(by omega), W.drop (j + 1), ?_⟩
    rw [← List.drop_eq_getElem_cons, List.take_append_drop]
  have hlen : (W.take j).length = j := by simp; omega
  have hcs := wcells_at hx
  rw [hlen] at hcs
  obtain ⟨g, cap, hv, _, hgl⟩ := hr.form (by omega)
  injection hv with hv1 _ hv3
  subst hv1
  subst hv3
  have hc0 := hr.cellAt (j * 2) (by omega)
  have hc1 := hr.cellAt (j * 2 + 1) (by omega)
  rw [hcs.1] at hc0
  rw [hcs.2] at hc1
  have hnext : W.take (j + 1) = W.take j ++ [x] := by
    conv => lhs; rw [hx]
    rw [List.take_append, hlen, List.take_of_length_le (by omega), show j + 1 - j = 1 from by omega]
    simp
  exact ⟨g, x, rest, rfl, hx, hlen, hnext, by rw [hx]; simp, hgl, hc0, hc1⟩

theorem wdat_take (W : List Wt) (j : Nat) : wdat (W.take j) = (wdat W).take j := by simp [wdat, List.map_take]
theorem wdat_cons {W D R : List Wt} {x : Wt} (h : W = D ++ x :: R) : wdat W = wdat D ++ (x.off, x.xs) :: wdat R := by rw [h]; simp [wdat]
theorem wdat_snoc (D : List Wt) (x : Wt) : wdat (D ++ [x]) = wdat D ++ [(x.off, x.xs)] := by simp [wdat]

set_option maxHeartbeats 1000000 in
theorem equalfunc_any (A B : Option Addr) (n m c d : Nat) (W V : List Wt) (w : World) (hW : w.ownsRow 0 77 2 (.slice A n c) n (wcells W)) (hV : w.ownsRow 0 77 2 (.slice B m d) m (wcells V)) (hn : W.length = n) (hm : V.length = m) (hn2 : n ≤ 1000000) (hm2 : m ≤ 1000000)
    (hw : ∀ x ∈ W, BytesAt w x.v x.xs ∧ x.off ≤ 262144) (hv : ∀ x ∈ V, BytesAt w x.v x.xs ∧ x.off ≤ 262144) :
    Calls Try.prog 48 #[.slice A n c, .slice B m d, .func (.func 49) #[] #[]] w fun e w' => e = .returned (.bool (sameWs (wdat W) (wdat V))) ∧ Below w.heap.size w w' := by
  by_cases hnm : n = m
  · subst hnm
    have HW := Lib.hid hW
    have HV := Lib.hid hV
    have HN := Lib.hid hn
    have HM := Lib.hid hm
    have HBW := Lib.hid hw
    have HBV := Lib.hid hv
    clear hW hV hn hm hw hv
    go_enter Try.func48, Try.ntmps48
    go_wp2
    go_loopw [17] (fun i wr => ∃ j : Nat, i = .int .i64 (j : Int) ∧ j ≤ n ∧ Hid (sameWs (wdat (W.take j)) (wdat (V.take j)) = true) ∧ Hid (Below w.heap.size w wr)) (fun i _ => n - (intOf i).toNat)
    case atStart => exact ⟨0, rfl, Nat.zero_le _, by show sameWs _ _ = true; simp [wdat, sameWs], Below.refl _ _⟩
    case round =>
      obtain ⟨j, rfl, hj, HJ, HB⟩ := hrel
      by_cases hlt : j < n
      · have kk : Keeps [] w wr := Keeps.of_below HB.out
        obtain ⟨g, x, rx, rfl, hx, hxl, hxn, hxm, hgl, x0, x1⟩ := pick_wt (own_keep HW.out kk (by simp)) HN.out hlt
        obtain ⟨f, y, ry, rfl, hy, hyl, hyn, hym, hfl, y0, y1⟩ := pick_wt (own_keep HV.out kk (by simp)) HM.out hlt
        have bx := (HBW.out x hxm).1.grow kk
        have by' := (HBV.out y hym).1.grow kk
        have ox := (HBW.out x hxm).2
        have oy := (HBV.out y hym).2
        obtain ⟨Ax, cx, ex, _⟩ := id bx
        obtain ⟨Ay, cy, ey, _⟩ := id by'
        rw [ex] at x1 bx
        rw [ey] at y1 by'
        have BX := Lib.hid bx
        have BY := Lib.hid by'
        have hsz := HB.out.size
        have HX := Lib.hid hx
        have HY := Lib.hid hy
        have HXN := Lib.hid hxn
        have HYN := Lib.hid hyn
        have HL : Hid ((W.take j).length = (V.take j).length) := by show _ = _; rw [hxl, hyl]
        clear kk hx hy hxn hyn hxl hyl ex ey bx by'
        have K2 := fun o1 o2 => Lib.hid (((Keeps.refl [] wr).alloc o1).alloc o2)
        cases hsw : sameW (x.off, x.xs) (y.off, y.xs) with
        | true =>
          have HSW := Lib.hid hsw
          clear hsw
          go_wp2_with fail
          refine (samewrite_is x.off y.off _ _ x.xs y.xs true _ (BX.out.grow (K2 _ _).out) (BY.out.grow (K2 _ _).out) (by omega) (by omega) HSW.out).mono ?_
          rintro e w2 ⟨rfl, hb2⟩
          have HB2 : Hid (Below w.heap.size w w2) := ((HB.out.alloc hsz _).alloc (by simp; omega) _).trans (hb2.mono (by simp; omega))
          have HN2 : Hid (sameWs (wdat (W.take (j + 1))) (wdat (V.take (j + 1))) = true) := by
            show _ = _
            rw [HXN.out, HYN.out, wdat_snoc, wdat_snoc]
            exact sameWs_snoc (by simpa [wdat] using HL.out) HJ.out HSW.out
          clear hb2
          go_wp2
          go_roundw
          case rel => exact ⟨j + 1, by go_num, by omega, HN2, HB2⟩
          case measure => simp [intOf]; omega
        | false =>
          have HSW := Lib.hid hsw
          clear hsw
          go_wp2_with fail
          refine (samewrite_is x.off y.off _ _ x.xs y.xs false _ (BX.out.grow (K2 _ _).out) (BY.out.grow (K2 _ _).out) (by omega) (by omega) HSW.out).mono ?_
          rintro e w2 ⟨rfl, hb2⟩
          have HB2 : Hid (Below w.heap.size w w2) := ((HB.out.alloc hsz _).alloc (by simp; omega) _).trans (hb2.mono (by simp; omega))
          have HN2 : Hid (sameWs (wdat W) (wdat V) = false) := by
            show _ = _
            rw [wdat_cons HX.out, wdat_cons HY.out, sameWs_split (by simpa [wdat] using HL.out) HJ.out, HSW.out]
            rfl
          clear hb2
          go_wp2
          go_ret
          exact ⟨by rw [HN2.out]; rfl, HB2.out⟩
      · go_wp2
        go_ret
        have hs := HJ.out
        rw [List.take_of_length_le (by have := HN.out; omega), List.take_of_length_le (by have := HM.out; omega)] at hs
        exact ⟨by rw [hs]; rfl, HB.out⟩
  · have h1 : ((n : Int) != (m : Int)) = true := by simp; omega
    have HS : Hid (sameWs (wdat W) (wdat V) = false) := sameWs_len (by simp [wdat]; omega)
    clear hW hV hw hv hnm
    go_enter Try.func48, Try.ntmps48
    go_wp2
    go_ret
    exact ⟨by rw [HS.out]; rfl, Below.refl _ _⟩

end Go.Proofs.Ytadpomclnhemoaa
