/- Texts of one proof, laid together: N4 N5 N6 N7. -/
import Derived.Test.YtoggddoeanfjeaaGreatDoorM04
/- dn: what may be a Type; walked. -/
namespace Go.Proofs.YtoggddoeanfjeaaGreatDoor
open Go.RowKit Go.Shelf
set_option linter.unusedVariables false
set_option linter.unusedSimpArgs false
set_option maxRecDepth 100000

theorem all_take {xs : List UInt8} {p : UInt8 → Bool} {j : Nat} {u : UInt8} (hu : xs[j]? = some u) : (xs.take (j + 1)).all p = ((xs.take j).all p && p u) := by
  rw [List.take_add_one, hu]
  simp
theorem all_cut {xs : List UInt8} {p : UInt8 → Bool} {j : Nat} {u : UInt8} (hu : xs[j]? = some u) (h : p u = false) : xs.all p = false := by
  rw [← Bool.not_eq_true, List.all_eq_true]
  intro hx
  have := hx u (List.mem_of_getElem? hu)
  rw [h] at this
  cases this

theorem eachb_is (A : Option Addr) (n c : Nat) (xs : List UInt8) (w : World) (hl : xs.length = n) (hn : n ≤ 9223372036854775807) (hb : BytesAt w (.slice A n c) xs) :
    Calls Tryz.prog 198 #[.slice A n c, .func (.func 199) #[] #[]] w fun e w' => e = .returned (.bool (xs.all typ1)) ∧ w = w' := by
  have HB := Lib.hid hb
  have HL := Lib.hid hl
  clear hb hl
  go_enter Tryz.func198, Tryz.ntmps198
  go_wp2_with fail
  go_loopw [9] (fun i wr => ∃ j : Nat, i = .int .i64 (j : Int) ∧ j ≤ n ∧ Hid ((xs.take j).all typ1 = true) ∧ wr = w) (fun i _ => n - (intOf i).toNat)
  case atStart => exact ⟨0, rfl, Nat.zero_le _, rfl, rfl⟩
  case round =>
    obtain ⟨j, rfl, hj, HA, rfl⟩ := hrel
    by_cases hlt : j < n
    · obtain ⟨b, o, rfl, hc⟩ := bytes_addr HB.out (by omega)
      obtain ⟨u, hu⟩ : ∃ u, xs[j]? = some u := ⟨_, List.getElem?_eq_getElem (by have := HL.out; omega)⟩
      have hcu := hc j u hu
      have HM := Lib.hid (maystand6_is u wr)
      have HT := Lib.hid (all_take (p := typ1) hu)
      have HC := Lib.hid (fun h => all_cut (p := typ1) hu h)
      obtain ⟨r, hr⟩ : ∃ r, typ1 u = r := ⟨_, rfl⟩
      rw [hr] at HM HT HC
      clear hc hu hr
      go_wp2_with fail
      refine HM.out.mono ?_
      rintro e w1 ⟨rfl, rfl⟩
      cases r
      · go_wp2_with fail
        go_ret
        exact ⟨by rw [HC.out (by first | exact trivial | rfl)]; rfl, rfl⟩
      · go_wp2_with fail
        go_roundw
        case rel => exact ⟨j + 1, by go_num, by omega, by show _ = _; rw [HT.out, HA.out]; rfl, trivial⟩
        case measure => simp [intOf]; omega
    · obtain rfl : j = n := by omega
      have h9 := HA.out
      rw [List.take_of_length_le (by have := HL.out; omega)] at h9
      have H9 := Lib.hid h9
      clear h9
      go_wp2_with fail
      go_ret
      exact ⟨by rw [H9.out]; rfl, rfl⟩

theorem maytype_is (xs : List UInt8) (w : World) (hx : xs.length ≤ 9223372036854775807) : Calls Tryz.prog 195 #[.string ⟨xs.toArray⟩] w fun e w' => e = .returned (.bool (typeOk xs)) ∧ Keeps [] w w' := by
  obtain ⟨C, O, hcv, hcap, hrow⟩ := conv_row xs hx
  have HE := Lib.hid (eachb_is (some ⟨w.heap.size, 0, none⟩) xs.length (C w) xs (w.alloc (O w)).drew rfl hx ((hrow w).bytes (hcap w).1 (hcap w).2))
  obtain ⟨r, hr⟩ : ∃ r, typeOk xs = r := ⟨_, rfl⟩
  rw [hr]
  unfold typeOk at hr
  have HR := Lib.hid hr
  clear hr hrow hcap
  rcases Nat.eq_zero_or_pos xs.length with h0 | h0
  · have hxe : xs = [] := List.length_eq_zero_iff.1 h0
    subst hxe
    obtain rfl : r = false := by rw [← HR.out]; rfl
    clear HE hcv hx h0
    go_enter Tryz.func195, Tryz.ntmps195
    go_wp2_with fail
    go_ret
    exact ⟨rfl, Keeps.refl _ _⟩
  · obtain ⟨u, hu⟩ : ∃ u, xs[0]? = some u := ⟨_, List.getElem?_eq_getElem h0⟩
    have hix := str_at xs 0 u hu
    rw [show (((0 : Nat)) : Int) = 0 from rfl] at hix
    have hhd : (xs.head?.map let1).getD false = let1 u := by
      cases xs with
      | nil => simp at h0
      | cons y ys => simp at hu; subst hu; rfl
    have HHD := Lib.hid hhd
    have HLT := Lib.hid (isletter_is u w)
    have hg : decide ((1 : Int) ≤ (xs.length : Int)) = true := by simp; omega
    have hg1 : (1 : Int) ≤ (xs.length : Int) := by omega
    clear hhd hu
    rcases Nat.lt_or_ge 64 xs.length with h1 | h1
    · obtain rfl : r = false := by
        rw [← HR.out, show decide (xs.length ≤ 64) = false by simp; omega]; simp
      have hg2 : decide ((xs.length : Int) ≤ 64) = false := by simp; omega
      clear h1 HE hcv hx
      go_enter Tryz.func195, Tryz.ntmps195
      go_wp2_with fail
      go_ret
      exact ⟨rfl, Keeps.refl _ _⟩
    · have hg2 : decide ((xs.length : Int) ≤ 64) = true := by simp; omega
      have hg3 : (xs.length : Int) ≤ 64 := by omega
      have HV : Hid (r = (let1 u && xs.all typ1)) := by
        show _ = _
        rw [← HR.out, HHD.out, show decide (xs.length ≤ 64) = true by simp; omega, show decide (1 ≤ xs.length) = true by simp; omega]
        simp
      obtain ⟨l, hl⟩ : ∃ l, let1 u = l := ⟨_, rfl⟩
      obtain ⟨q, hq⟩ : ∃ q, xs.all typ1 = q := ⟨_, rfl⟩
      rw [hl] at HLT HV
      rw [hq] at HE HV
      clear hl hq h0 h1 HR HHD hx
      go_enter Tryz.func195, Tryz.ntmps195
      go_wp2_with fail
      refine HLT.out.mono ?_
      rintro e w1 ⟨rfl, rfl⟩
      cases l
      · obtain rfl : r = false := by rw [HV.out]; rfl
        go_wp2_with fail
        go_ret
        exact ⟨rfl, Keeps.refl _ _⟩
      · obtain rfl : r = q := by rw [HV.out]; rfl
        go_wp2_with fail
        refine HE.out.mono ?_
        rintro e w2 ⟨rfl, rfl⟩
        go_wp2_with fail
        go_ret
        exact ⟨rfl, ((Keeps.refl [] w).alloc _).drew⟩

end Go.Proofs.YtoggddoeanfjeaaGreatDoor
/- dn: names in memory; what may be a part, a name; walked. -/
namespace Go.Proofs.YtoggddoeanfjeaaGreatDoor
open Go.RowKit Go.Shelf
set_option linter.unusedVariables false
set_option linter.unusedSimpArgs false
set_option maxRecDepth 100000

/-- A text as a value. -/
def tv (s : List UInt8) : Value := .string ⟨s.toArray⟩
/-- A name in memory: its parts, one behind the other. -/
def DnIn (w : World) (A : Option Addr) (n : Nat) (d : List Part6) : Prop :=
  d.length = n ∧ (∀ p ∈ d, p.1.length ≤ 9223372036854775807 ∧ p.2.length ≤ 9223372036854775807) ∧ (0 < n → ∃ b o, A = some ⟨b, o, none⟩ ∧ ∀ (i : Nat) (p : Part6), d[i]? = some p → w.cell? ⟨b, o + i * 2, none⟩ = some (tv p.1) ∧ w.cell? ⟨b, o + i * 2 + 1, none⟩ = some (tv p.2))
theorem DnIn.grow {w w' : World} {A : Option Addr} {n : Nat} {d : List Part6} (hk : Keeps [] w w') (h : DnIn w A n d) : DnIn w' A n d := by
  obtain ⟨h1, h2, h3⟩ := h
  refine ⟨h1, h2, fun hp => ?_⟩
  obtain ⟨b, o, e, hc⟩ := h3 hp
  refine ⟨b, o, e, fun i p hi => ?_⟩
  obtain ⟨c1, c2⟩ := hc i p hi
  exact ⟨(hk.cell (lt_of_cell c1) (by simp)).trans c1, (hk.cell (lt_of_cell c2) (by simp)).trans c2⟩

theorem two_facts6 {w : World} {g : Nat} {a b : Value} {t : TypeId} (h : w.heap[g]? = some (.cells #[a, b] t (0, 0))) : w.cell? ⟨g, 0, none⟩ = some a ∧ w.cell? ⟨g, 1, none⟩ = some b := ⟨by rw [cell_of_blk h]; rfl, by rw [cell_of_blk h]; rfl⟩

theorem maypart_is (p : Part6) (w : World) (h1 : p.1.length ≤ 9223372036854775807) (h2 : p.2.length ≤ 9223372036854775807) : Calls Tryz.prog 192 #[.agg #[tv p.1, tv p.2]] w fun e w' => e = .returned (.bool (partOk p)) ∧ Keeps [] w w' := by
  obtain ⟨s, v⟩ := p
  have hk0 : Keeps [] w (w.alloc (.cells #[tv s, tv v] 192)) := (Keeps.refl [] w).alloc _
  have hr0 : (w.alloc (.cells #[tv s, tv v] 192)).heap[w.heap.size]? = some (.cells #[tv s, tv v] 192 (0, 0)) := heap_new8 w _
  obtain ⟨W0, hW0⟩ : ∃ W0, w.alloc (.cells #[tv s, tv v] 192) = W0 := ⟨_, rfl⟩
  rw [hW0] at hk0 hr0
  have HF := Lib.hid (fun X (hk : Keeps [] W0 X) => two_facts6 (blk_keep hr0 hk (by simp)))
  have HK0 := Lib.hid hk0
  have HT := Lib.hid (maytype_is s W0 h1)
  obtain ⟨y0, y1⟩ := HF.out W0 (Keeps.refl _ _)
  obtain ⟨r, hr⟩ : ∃ r, partOk (s, v) = r := ⟨_, rfl⟩
  rw [hr]
  unfold partOk at hr
  dsimp only at hr h1 h2
  obtain ⟨l, hl⟩ : ∃ l, typeOk s = l := ⟨_, rfl⟩
  rw [hl] at HT hr
  clear hk0 hr0 hl h1 h2
  unfold tv at *
  go_enter Tryz.func192, Tryz.ntmps192
  go_wp2_with fail
  refine HT.out.mono ?_
  rintro e w1 ⟨rfl, hk1⟩
  have HK1 := Lib.hid (HK0.out.trans' hk1)
  clear y0 y1
  obtain ⟨y0, y1⟩ := HF.out w1 hk1
  clear hk1
  cases l
  · obtain rfl : r = false := by rw [← hr]; rfl
    clear hr
    go_wp2_with fail
    go_ret
    exact ⟨rfl, HK1.out⟩
  · rcases Nat.eq_zero_or_pos v.length with h0 | h0
    · have hve : v = [] := List.length_eq_zero_iff.1 h0
      subst hve
      obtain rfl : r = false := by rw [← hr]; rfl
      clear hr h0
      go_wp2_with fail
      go_ret
      exact ⟨rfl, HK1.out⟩
    · have hg : (1 : Int) ≤ (v.length : Int) := by omega
      rcases Nat.lt_or_ge 200 v.length with h3 | h3
      · obtain rfl : r = false := by rw [← hr]; simp; omega
        have hg2 : decide ((v.length : Int) ≤ 200) = false := by simp; omega
        clear hr h0 h3
        go_wp2_with fail
        go_ret
        exact ⟨by rw [← hg2]; rfl, HK1.out⟩
      · obtain rfl : r = true := by rw [← hr]; simp; omega
        have hg2 : decide ((v.length : Int) ≤ 200) = true := by simp; omega
        clear hr h0 h3
        go_wp2_with fail
        go_ret
        exact ⟨by rw [← hg2]; rfl, HK1.out⟩

end Go.Proofs.YtoggddoeanfjeaaGreatDoor
/- dn: what may be a name; walked. -/
namespace Go.Proofs.YtoggddoeanfjeaaGreatDoor
open Go.RowKit Go.Shelf
set_option linter.unusedVariables false
set_option linter.unusedSimpArgs false
set_option maxRecDepth 100000

theorem all_take2 {α : Type} {xs : List α} {p : α → Bool} {j : Nat} {u : α} (hu : xs[j]? = some u) : (xs.take (j + 1)).all p = ((xs.take j).all p && p u) := by
  rw [List.take_add_one, hu]
  simp
theorem all_cut2 {α : Type} {xs : List α} {p : α → Bool} {j : Nat} {u : α} (hu : xs[j]? = some u) (h : p u = false) : xs.all p = false := by
  rw [← Bool.not_eq_true, List.all_eq_true]
  intro hx
  have := hx u (List.mem_of_getElem? hu)
  rw [h] at this
  cases this

theorem eachr_is (A : Option Addr) (n c : Nat) (d : List Part6) (w : World) (hn : n ≤ 4611686018427387904) (h : DnIn w A n d) :
    Calls Tryz.prog 191 #[.slice A n c, .func (.func 192) #[] #[]] w fun e w' => e = .returned (.bool (d.all partOk)) ∧ Keeps [] w w' := by
  have HD := Lib.hid h
  clear h
  go_enter Tryz.func191, Tryz.ntmps191
  go_wp2_with fail
  go_loopw [9] (fun i wr => ∃ j : Nat, i = .int .i64 (j : Int) ∧ j ≤ n ∧ Hid ((d.take j).all partOk = true) ∧ Hid (Keeps [] w wr)) (fun i _ => n - (intOf i).toNat)
  case atStart => exact ⟨0, rfl, Nat.zero_le _, rfl, Keeps.refl _ _⟩
  case round =>
    obtain ⟨j, rfl, hj, HA, HKR⟩ := hrel
    by_cases hlt : j < n
    · obtain ⟨hl, hp, hc⟩ := HD.out.grow HKR.out
      obtain ⟨hl, hp, hc9⟩ := HD.out.grow HKR.out
      obtain ⟨b, o, hA9, hcc⟩ := hc9 (by omega)
      clear hc9
      subst hA9
      obtain ⟨p, hu⟩ : ∃ p, d[j]? = some p := ⟨_, List.getElem?_eq_getElem (by omega)⟩
      obtain ⟨c0, c1⟩ := hcc j p hu
      have hpp := hp p (List.mem_of_getElem? hu)
      have HM := Lib.hid (fun X => maypart_is p X hpp.1 hpp.2)
      have HT := Lib.hid (all_take2 (p := partOk) hu)
      have HC := Lib.hid (fun h => all_cut2 (p := partOk) hu h)
      obtain ⟨r, hr⟩ : ∃ r, partOk p = r := ⟨_, rfl⟩
      rw [hr] at HM HT HC
      obtain ⟨s, v⟩ := p
      dsimp only at c0 c1 HM
      unfold tv at c0 c1 HM
      clear hcc hu hr hpp hp hl
      have HK2 : Hid (Keeps [] w (wr.alloc (.cells #[.string ⟨s.toArray⟩, .string ⟨v.toArray⟩] 192))) := HKR.out.alloc _
      go_wp2_with fail
      refine (HM.out _).mono ?_
      rintro e w1 ⟨rfl, hk1⟩
      have HK1 := Lib.hid (HK2.out.trans' hk1)
      clear hk1
      cases r
      · go_wp2_with fail
        go_ret
        exact ⟨by rw [HC.out (by first | exact trivial | rfl)]; rfl, HK1.out⟩
      · go_wp2_with fail
        go_roundw
        case rel => exact ⟨j + 1, by go_num, by omega, by show _ = _; rw [HT.out, HA.out]; rfl, HK1.out⟩
        case measure => simp [intOf]; omega
    · obtain rfl : j = n := by omega
      have h9 := HA.out
      rw [List.take_of_length_le (by have := HD.out.1; omega)] at h9
      have H9 := Lib.hid h9
      clear h9
      go_wp2_with fail
      go_ret
      exact ⟨by rw [H9.out]; rfl, HKR.out⟩

theorem maybeone6_is (A : Option Addr) (n c : Nat) (d : List Part6) (w : World) (hn : n ≤ 4611686018427387904) (h : DnIn w A n d) :
    Calls Tryz.prog 190 #[.slice A n c] w fun e w' => e = .returned (.bool (nameOk d)) ∧ Keeps [] w w' := by
  have HE := Lib.hid (eachr_is A n c d w hn h)
  obtain ⟨r, hr⟩ : ∃ r, nameOk d = r := ⟨_, rfl⟩
  rw [hr]
  unfold nameOk at hr
  rw [h.1] at hr
  obtain ⟨q, hq⟩ : ∃ q, d.all partOk = q := ⟨_, rfl⟩
  rw [hq] at HE hr
  clear h hq
  rcases Nat.lt_or_ge 16 n with h1 | h1
  · obtain rfl : r = false := by rw [← hr, show decide (n ≤ 16) = false by simp; omega]; rfl
    have hg : ¬ (n : Int) ≤ 16 := by omega
    have hgb : decide ((n : Int) ≤ 16) = false := by simp; omega
    clear h1 hr hn HE
    go_enter Tryz.func190, Tryz.ntmps190
    go_wp2_with fail
    go_ret
    exact ⟨rfl, Keeps.refl _ _⟩
  · obtain rfl : r = q := by rw [← hr, show decide (n ≤ 16) = true by simp; omega]; rfl
    have hgb : decide ((n : Int) ≤ 16) = true := by simp; omega
    have hg : (n : Int) ≤ 16 := by omega
    clear h1 hr hn
    go_enter Tryz.func190, Tryz.ntmps190
    go_wp2_with fail
    refine HE.out.mono ?_
    rintro e w1 ⟨rfl, hk1⟩
    have HK1 := Lib.hid hk1
    clear hk1
    go_wp2_with fail
    go_ret
    exact ⟨rfl, HK1.out⟩

end Go.Proofs.YtoggddoeanfjeaaGreatDoor
/- dn: what may be, of some names; Check; walked. -/
namespace Go.Proofs.YtoggddoeanfjeaaGreatDoor
open Go.RowKit Go.Shelf
set_option linter.unusedVariables false
set_option linter.unusedSimpArgs false
set_option maxRecDepth 100000

/-- A name as a slice in memory. -/
structure Nm where
  A : Option Addr
  n : Nat
  c : Nat
  d : List Part6
def Nm.val (m : Nm) : Value := .slice m.A m.n m.c
def Nm.In (m : Nm) (w : World) : Prop := m.n ≤ 4611686018427387904 ∧ DnIn w m.A m.n m.d
theorem Nm.In.grow {m : Nm} {w w' : World} (hk : Keeps [] w w') (h : m.In w) : m.In w' := ⟨h.1, h.2.grow hk⟩

/-- Names in a row. -/
def NmsIn (w : World) (b : Nat) (l : List Nm) : Prop := ∀ (i : Nat) (m : Nm), l[i]? = some m → w.cell? ⟨b, i, none⟩ = some m.val ∧ m.In w
theorem NmsIn.grow {w w' : World} {b : Nat} {l : List Nm} (hk : Keeps [] w w') (h : NmsIn w b l) : NmsIn w' b l := fun i m hi => by
  obtain ⟨h1, h2⟩ := h i m hi
  exact ⟨(hk.cell (lt_of_cell h1) (by simp)).trans h1, h2.grow hk⟩

theorem eachd_is (b n : Nat) (l : List Nm) (w : World) (hl : l.length = n) (hn : n ≤ 4611686018427387904) (h : NmsIn w b l) :
    Calls Tryz.prog 189 #[.slice (some ⟨b, 0, none⟩) n n, .func (.func 190) #[] #[]] w fun e w' => e = .returned (.bool (l.all fun m => nameOk m.d)) ∧ Keeps [] w w' := by
  have HD := Lib.hid h
  have HL := Lib.hid hl
  clear h hl
  go_enter Tryz.func189, Tryz.ntmps189
  go_wp2_with fail
  go_loopw [9] (fun i wr => ∃ j : Nat, i = .int .i64 (j : Int) ∧ j ≤ n ∧ Hid ((l.take j).all (fun m => nameOk m.d) = true) ∧ Hid (Keeps [] w wr)) (fun i _ => n - (intOf i).toNat)
  case atStart => exact ⟨0, rfl, Nat.zero_le _, rfl, Keeps.refl _ _⟩
  case round =>
    obtain ⟨j, rfl, hj, HA, HKR⟩ := hrel
    by_cases hlt : j < n
    · obtain ⟨m, hu⟩ : ∃ m, l[j]? = some m := ⟨_, List.getElem?_eq_getElem (by have := HL.out; omega)⟩
      obtain ⟨c0, hin⟩ := (HD.out.grow HKR.out) j m hu
      have HM := Lib.hid (fun X (hk : Keeps [] wr X) => maybeone6_is m.A m.n m.c m.d X hin.1 (hin.2.grow hk))
      have HT := Lib.hid (all_take2 (p := fun m : Nm => nameOk m.d) hu)
      have HC := Lib.hid (fun h => all_cut2 (p := fun m : Nm => nameOk m.d) hu h)
      obtain ⟨r, hr⟩ : ∃ r, nameOk m.d = r := ⟨_, rfl⟩
      rw [hr] at HM
      rw [hr] at HT HC
      obtain ⟨A1, n1, c1, d1⟩ := m
      unfold Nm.val at c0
      dsimp only at c0 HM
      clear hu hr hin
      go_wp2_with fail
      refine (HM.out wr (Keeps.refl _ _)).mono ?_
      rintro e w1 ⟨rfl, hk1⟩
      have HK1 := Lib.hid (HKR.out.trans' hk1)
      clear hk1
      cases r
      · go_wp2_with fail
        go_ret
        exact ⟨by rw [HC.out (by first | exact trivial | rfl)]; rfl, HK1.out⟩
      · go_wp2_with fail
        go_roundw
        case rel => exact ⟨j + 1, by go_num, by omega, by show _ = _; rw [HT.out, HA.out]; rfl, HK1.out⟩
        case measure => simp [intOf]; omega
    · obtain rfl : j = n := by omega
      have h9 := HA.out
      rw [List.take_of_length_le (by have := HL.out; omega)] at h9
      have H9 := Lib.hid h9
      clear h9
      go_wp2_with fail
      go_ret
      exact ⟨by rw [H9.out]; rfl, HKR.out⟩

theorem maybe6_is (b n : Nat) (l : List Nm) (w : World) (hl : l.length = n) (hn : n ≤ 4611686018427387904) (h : NmsIn w b l) :
    Calls Tryz.prog 183 #[.slice (some ⟨b, 0, none⟩) n n] w fun e w' => e = .returned (.bool (l.all fun m => nameOk m.d)) ∧ Keeps [] w w' := by
  have HE := Lib.hid (eachd_is b n l w hl hn h)
  clear h hl hn
  go_enter Tryz.func183, Tryz.ntmps183
  go_wp2_with fail
  refine HE.out.mono ?_
  rintro e w1 ⟨rfl, hk1⟩
  have HK1 := Lib.hid hk1
  clear hk1
  go_wp2_with fail
  go_ret
  exact ⟨rfl, HK1.out⟩

/-- One name, laid in a row of its own. -/
theorem one_name (w : World) (A : Option Addr) (n c : Nat) (d : List Part6) (t : TypeId) (hn : n ≤ 4611686018427387904) (h : DnIn w A n d) : NmsIn (w.alloc (.cells #[.slice A n c] t)) w.heap.size [⟨A, n, c, d⟩] := fun i m hi => by
  cases i with
  | zero =>
    simp at hi
    subst hi
    refine ⟨?_, hn, h.grow ((Keeps.refl [] w).alloc _)⟩
    rw [cell_of_blk (heap_new8 w _)]
    rfl
  | succ i => simp at hi

theorem check6_is (A : Option Addr) (n c : Nat) (d : List Part6) (w : World) (hn : n ≤ 4611686018427387904) (h : DnIn w A n d) :
    Calls Tryz.prog 166 #[.slice A n c] w fun e w' => e = .returned (.int .i64 (if nameOk d then 0 else 2)) ∧ Keeps [] w w' := by
  have HM := Lib.hid (maybe6_is w.heap.size 1 [⟨A, n, c, d⟩] _ rfl (by decide) (one_name w A n c d 194 hn h))
  simp only [List.all_cons, List.all_nil, Bool.and_true] at HM
  obtain ⟨r, hr⟩ : ∃ r, nameOk d = r := ⟨_, rfl⟩
  rw [hr] at HM ⊢
  clear h hn hr
  have HK0 : Hid (Keeps [] w (w.alloc (.cells #[.slice A n c] 194))) := (Keeps.refl [] w).alloc _
  go_enter Tryz.func166, Tryz.ntmps166
  go_wp2_with fail
  refine HM.out.mono ?_
  rintro e w1 ⟨rfl, hk1⟩
  have HK1 := Lib.hid (HK0.out.trans' hk1)
  clear hk1
  cases r
  · go_wp2_with fail
    go_ret
    exact ⟨rfl, HK1.out⟩
  · go_wp2_with fail
    go_ret
    exact ⟨rfl, HK1.out⟩

end Go.Proofs.YtoggddoeanfjeaaGreatDoor
