/- Texts of one proof, laid together: D16 D17. -/
import Derived.Test.YthgpjlmdllihmaaGreatM12
import Derived.Deep.RegionHeld3
/- bytes.Equal, sameWrite, EqualFunc over writes, allTrue. -/
namespace Go.Proofs.YthgpjlmdllihmaaGreat
open Go.RowKit
set_option linter.unusedVariables false
set_option maxRecDepth 100000

theorem equal_any (v u : Value) (xs ys : List UInt8) (w : World) (hv : BytesAt w v xs) (hu : BytesAt w u ys) :
    Calls Tryz.prog 35 #[v, u] w fun e w' => e = .returned (.bool (xs == ys)) ∧ w = w' := by
  have h1 := conv_bytes hv
  have h2 := conv_bytes hu
  obtain ⟨A, c, rfl, _⟩ := hv
  obtain ⟨B, d, rfl, _⟩ := hu
  go_enter Tryz.func35, Tryz.ntmps35
  go_wp2
  go_ret
  exact ⟨rfl, rfl⟩

theorem equal_is (v u : Value) (xs ys : List UInt8) (b : Bool) (w : World) (hv : BytesAt w v xs) (hu : BytesAt w u ys) (hb : (xs == ys) = b) :
    Calls Tryz.prog 35 #[v, u] w fun e w' => e = .returned (.bool b) ∧ w = w' := by
  rw [← hb]
  exact equal_any v u xs ys w hv hu

/-- Do two writes lay the same at the same place? -/
def sameW (x y : Nat × List UInt8) : Bool := x.1 == y.1 && x.2 == y.2

theorem samewrite_any (a b : Nat) (v u : Value) (xs ys : List UInt8) (w : World) (hv : BytesAt w v xs) (hu : BytesAt w u ys) (ha : a ≤ 9223372036854775807) (hb : b ≤ 9223372036854775807) :
    Calls Tryz.prog 37 #[.agg #[.int .i64 (a : Int), v], .agg #[.int .i64 (b : Int), u]] w fun e w' => e = .returned (.bool (sameW (a, xs) (b, ys))) ∧ Below w.heap.size w w' := by
  have hv0 := hv
  have hu0 := hu
  obtain ⟨A, c, rfl, _⟩ := hv0
  obtain ⟨B, d, rfl, _⟩ := hu0
  by_cases hab : a = b
  · have h1 : ((a : Int) == (b : Int)) = true := by simp [hab]
    have HS : Hid (sameW (a, xs) (b, ys) = (xs == ys)) := by show sameW (a, xs) (b, ys) = _; simp [sameW, hab]
    have HV := Lib.hid hv
    have HU := Lib.hid hu
    clear hv hu hab
    go_enter Tryz.func37, Tryz.ntmps37
    go_wp2_with (go_at_call 35; refine (equal_any _ _ xs ys _ (HV.out.grow (((Keeps.refl [] w).alloc _).alloc _)) (HU.out.grow (((Keeps.refl [] w).alloc _).alloc _))).mono ?_; rintro e w' ⟨rfl, rfl⟩)
    go_ret
    exact ⟨by rw [HS.out]; rfl, ((Below.refl _ _).alloc (Nat.le_refl _) _).alloc (by simp) _⟩
  · have h1 : ((a : Int) == (b : Int)) = false := by simp; omega
    have HS : Hid (sameW (a, xs) (b, ys) = false) := by show sameW (a, xs) (b, ys) = _; simp [sameW, hab]
    clear hv hu hab
    go_enter Tryz.func37, Tryz.ntmps37
    go_wp2_with fail
    go_ret
    exact ⟨by rw [HS.out]; rfl, ((Below.refl _ _).alloc (Nat.le_refl _) _).alloc (by simp) _⟩

theorem samewrite_is (a b : Nat) (v u : Value) (xs ys : List UInt8) (r : Bool) (w : World) (hv : BytesAt w v xs) (hu : BytesAt w u ys) (ha : a ≤ 9223372036854775807) (hb : b ≤ 9223372036854775807) (hr : sameW (a, xs) (b, ys) = r) :
    Calls Tryz.prog 37 #[.agg #[.int .i64 (a : Int), v], .agg #[.int .i64 (b : Int), u]] w fun e w' => e = .returned (.bool r) ∧ Below w.heap.size w w' := by
  rw [← hr]
  exact samewrite_any a b v u xs ys w hv hu ha hb

theorem all_take {bs : List Bool} {j : Nat} (h : j < bs.length) : (bs.take (j + 1)).all id = ((bs.take j).all id && bs[j]) := by
  rw [List.take_succ_eq_append_getElem h, List.all_append]
  simp [List.all]

/-- Are two rows of writes the same? -/
def sameWs : List (Nat × List UInt8) → List (Nat × List UInt8) → Bool
  | [], [] => true
  | x :: xs, y :: ys => sameW x y && sameWs xs ys
  | _, _ => false

theorem sameWs_split {X Y : List (Nat × List UInt8)} {x y : Nat × List UInt8} : ∀ {D E : List (Nat × List UInt8)}, D.length = E.length → sameWs D E = true → sameWs (D ++ x :: X) (E ++ y :: Y) = (sameW x y && sameWs X Y) := by
  intro D
  induction D with
  | nil => intro E hl _; cases E with
    | nil => rfl
    | cons e E => simp at hl
  | cons d D ih => intro E hl h; cases E with
    | nil => simp at hl
    | cons e E =>
      simp only [sameWs, Bool.and_eq_true] at h
      simp only [List.cons_append, sameWs, h.1, Bool.true_and]
      exact ih (by simpa using hl) h.2

theorem sameWs_snoc {x y : Nat × List UInt8} {D E : List (Nat × List UInt8)} (hl : D.length = E.length) (h : sameWs D E = true) (hxy : sameW x y = true) : sameWs (D ++ [x]) (E ++ [y]) = true := by
  rw [sameWs_split hl h, hxy]
  rfl

theorem sameWs_len {D E : List (Nat × List UInt8)} (hl : D.length ≠ E.length) : sameWs D E = false := by
  induction D generalizing E with
  | nil => cases E with
    | nil => exact absurd rfl hl
    | cons e E => rfl
  | cons d D ih => cases E with
    | nil => rfl
    | cons e E => simp only [sameWs]; rw [ih (by simpa using hl), Bool.and_false]

theorem alltrue_any (g : Nat) (c : Nat) (bs : List Bool) (w : World) (hl : bs.length ≤ 1000) (hc : ∀ i b, bs[i]? = some b → w.cell? ⟨g, i, none⟩ = some (.bool b)) :
    Calls Tryz.prog 34 #[.slice (some ⟨g, 0, none⟩) bs.length c] w fun e w' => e = .returned (.bool (bs.all id)) ∧ w = w' := by
  have HC := Lib.hid hc
  clear hc
  go_enter Tryz.func34, Tryz.ntmps34
  go_wp2
  go_loop [7] (fun i => ∃ j : Nat, i = .int .i64 (j : Int) ∧ j ≤ bs.length ∧ Hid ((bs.take j).all id = true)) (fun i => bs.length - (intOf i).toNat)
  case atStart => exact ⟨0, rfl, Nat.zero_le _, by show (bs.take 0).all id = true; simp⟩
  case round =>
    obtain ⟨j, rfl, hj, HJ⟩ := hrel
    by_cases hlt : j < bs.length
    · have hb : bs[j]? = some bs[j] := List.getElem?_eq_getElem hlt
      have hcell := HC.out j _ hb
      have hnext := all_take hlt
      cases hbj : bs[j] with
      | true =>
        rw [hbj] at hcell hnext
        have HNX : Hid ((bs.take (j + 1)).all id = true) := by show _ = _; rw [hnext, HJ.out]; rfl
        clear hnext hbj hb
        go_wp2
        go_round
        case rel => exact ⟨j + 1, by go_num, by omega, HNX⟩
        case measure => simp [intOf]; omega
      | false =>
        rw [hbj] at hcell
        have HF : Hid (bs.all id = false) := by
          show _ = _
          rw [List.all_eq_false]
          exact ⟨bs[j], List.getElem_mem hlt, by simp [hbj]⟩
        clear hnext hbj hb
        go_wp2
        go_ret
        exact ⟨by rw [HF.out]; rfl, rfl⟩
    · go_wp2
      go_ret
      have : (bs.take j).all id = true := HJ.out
      rw [List.take_of_length_le (by omega)] at this
      exact ⟨by rw [this]; rfl, rfl⟩

/-- What lies at a row of writes, one of them picked. -/
theorem pick_wt {w : World} {A : Option Addr} {n c j : Nat} {W : List Wt} (hr : w.ownsRow 0 86 2 (.slice A n c) n (wcells W)) (hn : W.length = n) (hj : j < n) :
    ∃ g x rest, A = some ⟨g, 0, none⟩ ∧ W = W.take j ++ x :: rest ∧ (W.take j).length = j ∧ W.take (j + 1) = W.take j ++ [x] ∧ x ∈ W ∧ g < w.heap.size ∧ w.cell? ⟨g, j * 2, none⟩ = some (.int .i64 (x.off : Int)) ∧ w.cell? ⟨g, j * 2 + 1, none⟩ = some x.v := by
  obtain ⟨x, rest, hx⟩ : ∃ x rest, W = W.take j ++ x :: rest := by
    refine ⟨W[j]'(by omega), W.drop (j + 1), ?_⟩
    rw [← List.drop_eq_getElem_cons, List.take_append_drop]
  have hlen : (W.take j).length = j := by simp; omega
  have hcs := wcells_at hx
  rw [hlen] at hcs
  obtain ⟨g, cap, hv, _, hgl⟩ := hr.form (by omega)
  injection hv with hv1 _ hv3
  subst hv1
  subst hv3
  have hc0 := hr.cellAt (j * 2) (by omega)
  have hc1 := hr.cellAt (j * 2 + 1) (by omega)
  rw [hcs.1] at hc0
  rw [hcs.2] at hc1
  have hnext : W.take (j + 1) = W.take j ++ [x] := by
    conv => lhs; rw [hx]
    rw [List.take_append, hlen, List.take_of_length_le (by omega), show j + 1 - j = 1 from by omega]
    simp
  exact ⟨g, x, rest, rfl, hx, hlen, hnext, by rw [hx]; simp, hgl, hc0, hc1⟩

theorem wdat_take (W : List Wt) (j : Nat) : wdat (W.take j) = (wdat W).take j := by simp [wdat, List.map_take]
theorem wdat_cons {W D R : List Wt} {x : Wt} (h : W = D ++ x :: R) : wdat W = wdat D ++ (x.off, x.xs) :: wdat R := by rw [h]; simp [wdat]
theorem wdat_snoc (D : List Wt) (x : Wt) : wdat (D ++ [x]) = wdat D ++ [(x.off, x.xs)] := by simp [wdat]

set_option maxHeartbeats 1000000 in
theorem equalfunc_any (A B : Option Addr) (n m c d : Nat) (W V : List Wt) (w : World) (hW : w.ownsRow 0 86 2 (.slice A n c) n (wcells W)) (hV : w.ownsRow 0 86 2 (.slice B m d) m (wcells V)) (hn : W.length = n) (hm : V.length = m) (hn2 : n ≤ 1000000) (hm2 : m ≤ 1000000)
    (hw : ∀ x ∈ W, BytesAt w x.v x.xs ∧ x.off ≤ 262144) (hv : ∀ x ∈ V, BytesAt w x.v x.xs ∧ x.off ≤ 262144) :
    Calls Tryz.prog 36 #[.slice A n c, .slice B m d, .func (.func 37) #[] #[]] w fun e w' => e = .returned (.bool (sameWs (wdat W) (wdat V))) ∧ Below w.heap.size w w' := by
  by_cases hnm : n = m
  · subst hnm
    have HW := Lib.hid hW
    have HV := Lib.hid hV
    have HN := Lib.hid hn
    have HM := Lib.hid hm
    have HBW := Lib.hid hw
    have HBV := Lib.hid hv
    clear hW hV hn hm hw hv
    go_enter Tryz.func36, Tryz.ntmps36
    go_wp2
    go_loopw [17] (fun i wr => ∃ j : Nat, i = .int .i64 (j : Int) ∧ j ≤ n ∧ Hid (sameWs (wdat (W.take j)) (wdat (V.take j)) = true) ∧ Hid (Below w.heap.size w wr)) (fun i _ => n - (intOf i).toNat)
    case atStart => exact ⟨0, rfl, Nat.zero_le _, by show sameWs _ _ = true; simp [wdat, sameWs], Below.refl _ _⟩
    case round =>
      obtain ⟨j, rfl, hj, HJ, HB⟩ := hrel
      by_cases hlt : j < n
      · have kk : Keeps [] w wr := Keeps.of_below HB.out
        obtain ⟨g, x, rx, rfl, hx, hxl, hxn, hxm, hgl, x0, x1⟩ := pick_wt (own_keep HW.out kk (by simp)) HN.out hlt
        obtain ⟨f, y, ry, rfl, hy, hyl, hyn, hym, hfl, y0, y1⟩ := pick_wt (own_keep HV.out kk (by simp)) HM.out hlt
        have bx := (HBW.out x hxm).1.grow kk
        have by' := (HBV.out y hym).1.grow kk
        have ox := (HBW.out x hxm).2
        have oy := (HBV.out y hym).2
        obtain ⟨Ax, cx, ex, _⟩ := id bx
        obtain ⟨Ay, cy, ey, _⟩ := id by'
        rw [ex] at x1 bx
        rw [ey] at y1 by'
        have BX := Lib.hid bx
        have BY := Lib.hid by'
        have hsz := HB.out.size
        have HX := Lib.hid hx
        have HY := Lib.hid hy
        have HXN := Lib.hid hxn
        have HYN := Lib.hid hyn
        have HL : Hid ((W.take j).length = (V.take j).length) := by show _ = _; rw [hxl, hyl]
        clear kk hx hy hxn hyn hxl hyl ex ey bx by'
        have K2 := fun o1 o2 => Lib.hid (((Keeps.refl [] wr).alloc o1).alloc o2)
        cases hsw : sameW (x.off, x.xs) (y.off, y.xs) with
        | true =>
          have HSW := Lib.hid hsw
          clear hsw
          go_wp2_with fail
          refine (samewrite_is x.off y.off _ _ x.xs y.xs true _ (BX.out.grow (K2 _ _).out) (BY.out.grow (K2 _ _).out) (by omega) (by omega) HSW.out).mono ?_
          rintro e w2 ⟨rfl, hb2⟩
          have HB2 : Hid (Below w.heap.size w w2) := ((HB.out.alloc hsz _).alloc (by simp; omega) _).trans (hb2.mono (by simp; omega))
          have HN2 : Hid (sameWs (wdat (W.take (j + 1))) (wdat (V.take (j + 1))) = true) := by
            show _ = _
            rw [HXN.out, HYN.out, wdat_snoc, wdat_snoc]
            exact sameWs_snoc (by simpa [wdat] using HL.out) HJ.out HSW.out
          clear hb2
          go_wp2
          go_roundw
          case rel => exact ⟨j + 1, by go_num, by omega, HN2, HB2⟩
          case measure => simp [intOf]; omega
        | false =>
          have HSW := Lib.hid hsw
          clear hsw
          go_wp2_with fail
          refine (samewrite_is x.off y.off _ _ x.xs y.xs false _ (BX.out.grow (K2 _ _).out) (BY.out.grow (K2 _ _).out) (by omega) (by omega) HSW.out).mono ?_
          rintro e w2 ⟨rfl, hb2⟩
          have HB2 : Hid (Below w.heap.size w w2) := ((HB.out.alloc hsz _).alloc (by simp; omega) _).trans (hb2.mono (by simp; omega))
          have HN2 : Hid (sameWs (wdat W) (wdat V) = false) := by
            show _ = _
            rw [wdat_cons HX.out, wdat_cons HY.out, sameWs_split (by simpa [wdat] using HL.out) HJ.out, HSW.out]
            rfl
          clear hb2
          go_wp2
          go_ret
          exact ⟨by rw [HN2.out]; rfl, HB2.out⟩
      · go_wp2
        go_ret
        have hs := HJ.out
        rw [List.take_of_length_le (by have := HN.out; omega), List.take_of_length_le (by have := HM.out; omega)] at hs
        exact ⟨by rw [hs]; rfl, HB.out⟩
  · have h1 : ((n : Int) != (m : Int)) = true := by simp; omega
    have HS : Hid (sameWs (wdat W) (wdat V) = false) := sameWs_len (by simp [wdat]; omega)
    clear hW hV hw hv hnm
    go_enter Tryz.func36, Tryz.ntmps36
    go_wp2
    go_ret
    exact ⟨by rw [HS.out]; rfl, Below.refl _ _⟩

end Go.Proofs.YthgpjlmdllihmaaGreat
/- Same: are two disks the same? -/
namespace Go.Proofs.YthgpjlmdllihmaaGreat
open Go.RowKit
set_option linter.unusedVariables false
set_option maxRecDepth 100000

def sameDat (d e : Dat) : Bool := [d.S == e.S, d.L == e.L, sameWs d.W e.W, (d.lim : Int) == (e.lim : Int), d.left == e.left].all id

theorem DiskAt.offs {w : World} {k : Dk} (h : DiskAt w k) : ∀ x ∈ k.W, BytesAt w x.v x.xs ∧ x.off ≤ 262144 := by
  intro x hx
  obtain ⟨h1, h2, _⟩ := h.fit x hx
  have := h.big
  exact ⟨h1, by omega⟩

theorem fivecells {w : World} (t : TypeId) (a b c d e : Bool) : ∀ i x, [a, b, c, d, e][i]? = some x → (w.alloc (.cells #[.bool a, .bool b, .bool c, .bool d, .bool e] t)).cell? ⟨w.heap.size, i, none⟩ = some (.bool x) := by
  intro i x h
  rw [World.cell?_alloc_new]
  match i, h with
  | 0, h => simp at h; simp [h]
  | 1, h => simp at h; simp [h]
  | 2, h => simp at h; simp [h]
  | 3, h => simp at h; simp [h]
  | 4, h => simp at h; simp [h]

theorem alltrue5 (w : World) (t : TypeId) (a b c d e : Bool) : Calls Tryz.prog 34 #[.slice (some ⟨w.heap.size, 0, none⟩) 5 5] (w.alloc (.cells #[.bool a, .bool b, .bool c, .bool d, .bool e] t)) fun r w' => r = .returned (.bool ([a, b, c, d, e].all id)) ∧ (w.alloc (.cells #[.bool a, .bool b, .bool c, .bool d, .bool e] t)) = w' :=
  alltrue_any w.heap.size 5 [a, b, c, d, e] _ (by simp) (fivecells t a b c d e)

set_option maxHeartbeats 4000000 in
theorem same_any (k m : Dk) (w : World) (h : DiskAt w k) (g : DiskAt w m) (hW : k.W.length ≤ 1000000) (hV : m.W.length ≤ 1000000) :
    Calls Tryz.prog 17 #[.pointer (some ⟨k.p, 0, none⟩), .pointer (some ⟨m.p, 0, none⟩)] w fun e w' => e = .returned (.bool (sameDat k.dat m.dat)) ∧ Below w.heap.size w w' := by
  have M1 := Lib.hid (missing_not _ _ _ _ w h.c0 h.pos (by have := h.big; omega))
  have M2 := Lib.hid (missing_not _ _ _ _ w g.c0 g.pos (by have := g.big; omega))
  have a0 := h.c0
  have a1 := h.c1
  have a2 := h.c2
  have a3 := h.c3
  have a4 := h.c4
  have b0 := g.c0
  have b1 := g.c1
  have b2 := g.c2
  have b3 := g.c3
  have b4 := g.c4
  obtain ⟨Aq, cq, hqv⟩ := own_slice h.wa
  obtain ⟨Bq, dq, hqw⟩ := own_slice g.wa
  rw [hqv] at a2
  rw [hqw] at b2
  have hwa := h.wa
  have hwb := g.wa
  rw [hqv] at hwa
  rw [hqw] at hwb
  have HD := Lib.hid h
  have GD := Lib.hid g
  have HWA := Lib.hid hwa
  have HWB := Lib.hid hwb
  have hkp := lt_of_heap h.blk
  have hmp := lt_of_heap g.blk
  have EF := Lib.hid (equalfunc_any Aq Bq k.W.length m.W.length cq dq k.W m.W w.drew hwa.drew hwb.drew rfl rfl hW hV (fun x hx => ⟨(h.offs x hx).1.grow (Keeps.refl [] w).drew, (h.offs x hx).2⟩) (fun x hx => ⟨(g.offs x hx).1.grow (Keeps.refl [] w).drew, (g.offs x hx).2⟩))
  clear h g hqv hqw hwa hwb
  go_enter Tryz.func17, Tryz.ntmps17
  go_wp2_with fail
  refine M1.out.mono ?_
  rintro e w' ⟨rfl, rfl⟩
  go_wp2_with fail
  refine M2.out.mono ?_
  rintro e w' ⟨rfl, rfl⟩
  clear M1 M2
  go_wp2_with fail
  go_region_held3 (fun w' => w'.cell? ⟨k.p, 0, none⟩ = some (.slice (some ⟨k.s, 0, none⟩) k.S.length k.cs) ∧ w'.cell? ⟨k.p, 1, none⟩ = some (.slice (some ⟨k.l, 0, none⟩) k.L.length k.cl) ∧ w'.cell? ⟨k.p, 2, none⟩ = some (.slice Aq k.W.length cq) ∧ w'.cell? ⟨k.p, 3, none⟩ = some (.int .i64 (k.lim : Int)) ∧ w'.cell? ⟨k.p, 4, none⟩ = some (.int .i64 k.left)
      ∧ w'.cell? ⟨m.p, 0, none⟩ = some (.slice (some ⟨m.s, 0, none⟩) m.S.length m.cs) ∧ w'.cell? ⟨m.p, 1, none⟩ = some (.slice (some ⟨m.l, 0, none⟩) m.L.length m.cl) ∧ w'.cell? ⟨m.p, 2, none⟩ = some (.slice Bq m.W.length dq) ∧ w'.cell? ⟨m.p, 3, none⟩ = some (.int .i64 (m.lim : Int)) ∧ w'.cell? ⟨m.p, 4, none⟩ = some (.int .i64 m.left)) (go_keep)
    (first
      | (go_at_call_of 35 (Value.slice (some ⟨k.s, 0, none⟩) k.S.length k.cs); refine (equal_any _ _ k.S m.S _ ((BytesAt.of_own HD.out.st).grow (Keeps.refl [] w).drew) ((BytesAt.of_own GD.out.st).grow (Keeps.refl [] w).drew)).mono ?_; rintro e w' ⟨rfl, rfl⟩)
      | (go_at_call_of 35 (Value.slice (some ⟨k.l, 0, none⟩) k.L.length k.cl); refine (equal_any _ _ k.L m.L _ ((BytesAt.of_own HD.out.la).grow (Keeps.refl [] w).drew) ((BytesAt.of_own GD.out.la).grow (Keeps.refl [] w).drew)).mono ?_; rintro e w' ⟨rfl, rfl⟩)
      | (go_at_call 36; refine EF.out.mono ?_; rintro e w1 ⟨rfl, hb1⟩; have q0 := (hb1.cell (p := ⟨k.p, 0, none⟩) hkp).trans a0; have q1 := (hb1.cell (p := ⟨k.p, 1, none⟩) hkp).trans a1; have q2 := (hb1.cell (p := ⟨k.p, 2, none⟩) hkp).trans a2; have q3 := (hb1.cell (p := ⟨k.p, 3, none⟩) hkp).trans a3; have q4 := (hb1.cell (p := ⟨k.p, 4, none⟩) hkp).trans a4; have r0 := (hb1.cell (p := ⟨m.p, 0, none⟩) hmp).trans b0; have r1 := (hb1.cell (p := ⟨m.p, 1, none⟩) hmp).trans b1; have r2 := (hb1.cell (p := ⟨m.p, 2, none⟩) hmp).trans b2; have r3 := (hb1.cell (p := ⟨m.p, 3, none⟩) hmp).trans b3; have r4 := (hb1.cell (p := ⟨m.p, 4, none⟩) hmp).trans b4; have HB1 := Lib.hid hb1; clear hb1 EF)
      | (go_at_call 34; refine (alltrue5 w1 _ _ _ _ _ _).mono ?_; rintro e w2 ⟨rfl, rfl⟩))
  have hbw : Below w.heap.size w w1 := (Below.refl _ _).drew.trans HB1.out
  have hsz := hbw.size
  have HBW := Lib.hid hbw
  clear hbw q0 q1 q2 q3 q4 r0 r1 r2 r3 r4 a0 a1 a2 a3 a4 b0 b1 b2 b3 b4
  go_wp2
  go_ret
  exact ⟨by simp [sameDat, Dk.dat, wdat], HBW.out.alloc hsz _⟩

end Go.Proofs.YthgpjlmdllihmaaGreat
