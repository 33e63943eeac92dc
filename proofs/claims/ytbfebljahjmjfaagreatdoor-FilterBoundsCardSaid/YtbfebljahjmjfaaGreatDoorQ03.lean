import Derived.Test.YtbfebljahjmjfaaGreatDoorQ02
import Derived.BigQuiet
import Derived.RangeFuncNested
import Derived.RangeFuncFrom
import Derived.RangeFuncBound
import Derived.RangeFuncCalls
import Derived.RangeFuncLeaves
import Derived.RangeFuncBox
import Derived.Shelf.Abstract
import Derived.OwnWalkIn
import Derived.TacticsInMore
import Derived.LoopNIn
import Derived.LoopIn
import Derived.Laws.EntriesVeiled
/- dn: what may be a name; walked. -/
namespace Go.Proofs.YtbfebljahjmjfaaGreatDoor
open Go.RowKit Go.Shelf
set_option linter.unusedVariables false
set_option linter.unusedSimpArgs false
set_option maxRecDepth 100000

theorem all_take2 {α : Type} {xs : List α} {p : α → Bool} {j : Nat} {u : α} (hu : xs[j]? = some u) : (xs.take (j + 1)).all p = ((xs.take j).all p && p u) := by
 rw [List.take_add_one, hu]
 simp
theorem all_cut2 {α : Type} {xs : List α} {p : α → Bool} {j : Nat} {u : α} (hu : xs[j]? = some u) (h : p u = false) : xs.all p = false := by
 rw [← Bool.not_eq_true, List.all_eq_true]
 intro hx
 have := hx u (List.mem_of_getElem? hu)
 rw [h] at this
 cases this

theorem eachr_is (A : Option Addr) (n c : Nat) (d : List Part6) (w : World) (hn : n ≤ 4611686018427387904) (h : DnIn w A n d) :
  Calls Tryz.prog 270 #[.slice A n c, .func (.func 271) #[] #[]] w fun e w' => e = .returned (.bool (d.all partOk)) ∧ Keeps [] w w' := by
 have HD := Lib.hid h
 clear h
 go_enter Tryz.func270, Tryz.ntmps270
 go_wp2_with fail
 go_loopw [9] (fun i wr => ∃ j : Nat, i = .int .i64 (j : Int) ∧ j ≤ n ∧ Hid ((d.take j).all partOk = true) ∧ Hid (Keeps [] w wr)) (fun i _ => n - (intOf i).toNat)
 case atStart => exact ⟨0, rfl, Nat.zero_le _, rfl, Keeps.refl _ _⟩
 case round =>
  obtain ⟨j, rfl, hj, HA, HKR⟩ := hrel
  by_cases hlt : j < n
  ·obtain ⟨hl, hp, hc⟩ := HD.out.grow HKR.out
   obtain ⟨hl, hp, hc9⟩ := HD.out.grow HKR.out
   obtain ⟨b, o, hA9, hcc⟩ := hc9 (by omega)
   clear hc9
   subst hA9
   obtain ⟨p, hu⟩ : ∃ p, d[j]? = some p := ⟨_, List.getElem?_eq_getElem (by omega)⟩
   obtain ⟨c0, c1⟩ := hcc j p hu
   have hpp := hp p (List.mem_of_getElem? hu)
   have HM := Lib.hid (fun X => maypart_is p X hpp.1 hpp.2)
   have HT := Lib.hid (all_take2 (p := partOk) hu)
   have HC := Lib.hid (fun h => all_cut2 (p := partOk) hu h)
   obtain ⟨r, hr⟩ : ∃ r, partOk p = r := ⟨_, rfl⟩
   rw [hr] at HM HT HC
   obtain ⟨s, v⟩ := p
   dsimp only at c0 c1 HM
   unfold tv at c0 c1 HM
   clear hcc hu hr hpp hp hl
   have HK2 : Hid (Keeps [] w (wr.alloc (.cells #[.string ⟨s.toArray⟩, .string ⟨v.toArray⟩] 63))) := HKR.out.alloc _
   go_wp2_with fail
   refine (HM.out _).mono ?_
   rintro e w1 ⟨rfl, hk1⟩
   have HK1 := Lib.hid (HK2.out.trans' hk1)
   clear hk1
   cases r
   ·go_wp2_with fail
    go_ret
    exact ⟨by rw [HC.out (by first | exact trivial | rfl)]; rfl, HK1.out⟩
   ·go_wp2_with fail
    go_roundw
    case rel => exact ⟨j + 1, by go_num, by omega, by show _ = _; rw [HT.out, HA.out]; rfl, HK1.out⟩
    case measure => simp [intOf]; omega
  ·obtain rfl : j = n := by omega
   have h9 := HA.out
   rw [List.take_of_length_le (by have := HD.out.1; omega)] at h9
   have H9 := Lib.hid h9
   clear h9
   go_wp2_with fail
   go_ret
   exact ⟨by rw [H9.out]; rfl, HKR.out⟩

theorem maybeone6_is (A : Option Addr) (n c : Nat) (d : List Part6) (w : World) (hn : n ≤ 4611686018427387904) (h : DnIn w A n d) :
  Calls Tryz.prog 269 #[.slice A n c] w fun e w' => e = .returned (.bool (nameOk d)) ∧ Keeps [] w w' := by
 have HE := Lib.hid (eachr_is A n c d w hn h)
 obtain ⟨r, hr⟩ : ∃ r, nameOk d = r := ⟨_, rfl⟩
 rw [hr]
 unfold nameOk at hr
 rw [h.1] at hr
 obtain ⟨q, hq⟩ : ∃ q, d.all partOk = q := ⟨_, rfl⟩
 rw [hq] at HE hr
 clear h hq
 rcases Nat.lt_or_ge 16 n with h1 | h1
 ·obtain rfl : r = false := by rw [← hr, show decide (n ≤ 16) = false by simp; omega]; rfl
  have hg : ¬ (n : Int) ≤ 16 := by omega
  have hgb : decide ((n : Int) ≤ 16) = false := by simp; omega
  clear h1 hr hn HE
  go_enter Tryz.func269, Tryz.ntmps269
  go_wp2_with fail
  go_ret
  exact ⟨rfl, Keeps.refl _ _⟩
 ·obtain rfl : r = q := by rw [← hr, show decide (n ≤ 16) = true by simp; omega]; rfl
  have hgb : decide ((n : Int) ≤ 16) = true := by simp; omega
  have hg : (n : Int) ≤ 16 := by omega
  clear h1 hr hn
  go_enter Tryz.func269, Tryz.ntmps269
  go_wp2_with fail
  refine HE.out.mono ?_
  rintro e w1 ⟨rfl, hk1⟩
  have HK1 := Lib.hid hk1
  clear hk1
  go_wp2_with fail
  go_ret
  exact ⟨rfl, HK1.out⟩

end Go.Proofs.YtbfebljahjmjfaaGreatDoor
/- dn: what may be, of some names; Check; walked. -/
namespace Go.Proofs.YtbfebljahjmjfaaGreatDoor
open Go.RowKit Go.Shelf
set_option linter.unusedVariables false
set_option linter.unusedSimpArgs false
set_option maxRecDepth 100000

/-- A name as a slice in memory. -/
structure Nm where
 A : Option Addr
 n : Nat
 c : Nat
 d : List Part6
def Nm.val (m : Nm) : Value := .slice m.A m.n m.c
def Nm.In (m : Nm) (w : World) : Prop := m.n ≤ 4611686018427387904 ∧ DnIn w m.A m.n m.d
theorem Nm.In.grow {m : Nm} {w w' : World} (hk : Keeps [] w w') (h : m.In w) : m.In w' := ⟨h.1, h.2.grow hk⟩

/-- Names in a row. -/
def NmsIn (w : World) (b : Nat) (l : List Nm) : Prop := ∀ (i : Nat) (m : Nm), l[i]? = some m → w.cell? ⟨b, i, none⟩ = some m.val ∧ m.In w
theorem NmsIn.grow {w w' : World} {b : Nat} {l : List Nm} (hk : Keeps [] w w') (h : NmsIn w b l) : NmsIn w' b l := fun i m hi => by
 obtain ⟨h1, h2⟩ := h i m hi
 exact ⟨(hk.cell (lt_of_cell h1) (by simp)).trans h1, h2.grow hk⟩

theorem eachd_is (b n : Nat) (l : List Nm) (w : World) (hl : l.length = n) (hn : n ≤ 4611686018427387904) (h : NmsIn w b l) :
  Calls Tryz.prog 268 #[.slice (some ⟨b, 0, none⟩) n n, .func (.func 269) #[] #[]] w fun e w' => e = .returned (.bool (l.all fun m => nameOk m.d)) ∧ Keeps [] w w' := by
 have HD := Lib.hid h
 have HL := Lib.hid hl
 clear h hl
 go_enter Tryz.func268, Tryz.ntmps268
 go_wp2_with fail
 go_loopw [9] (fun i wr => ∃ j : Nat, i = .int .i64 (j : Int) ∧ j ≤ n ∧ Hid ((l.take j).all (fun m => nameOk m.d) = true) ∧ Hid (Keeps [] w wr)) (fun i _ => n - (intOf i).toNat)
 case atStart => exact ⟨0, rfl, Nat.zero_le _, rfl, Keeps.refl _ _⟩
 case round =>
  obtain ⟨j, rfl, hj, HA, HKR⟩ := hrel
  by_cases hlt : j < n
  ·obtain ⟨m, hu⟩ : ∃ m, l[j]? = some m := ⟨_, List.getElem?_eq_getElem (by have := HL.out; omega)⟩
   obtain ⟨c0, hin⟩ := (HD.out.grow HKR.out) j m hu
   have HM := Lib.hid (fun X (hk : Keeps [] wr X) => maybeone6_is m.A m.n m.c m.d X hin.1 (hin.2.grow hk))
   have HT := Lib.hid (all_take2 (p := fun m : Nm => nameOk m.d) hu)
   have HC := Lib.hid (fun h => all_cut2 (p := fun m : Nm => nameOk m.d) hu h)
   obtain ⟨r, hr⟩ : ∃ r, nameOk m.d = r := ⟨_, rfl⟩
   rw [hr] at HM
   rw [hr] at HT HC
   obtain ⟨A1, n1, c1, d1⟩ := m
   unfold Nm.val at c0
   dsimp only at c0 HM
   clear hu hr hin
   go_wp2_with fail
   refine (HM.out wr (Keeps.refl _ _)).mono ?_
   rintro e w1 ⟨rfl, hk1⟩
   have HK1 := Lib.hid (HKR.out.trans' hk1)
   clear hk1
   cases r
   ·go_wp2_with fail
    go_ret
    exact ⟨by rw [HC.out (by first | exact trivial | rfl)]; rfl, HK1.out⟩
   ·go_wp2_with fail
    go_roundw
    case rel => exact ⟨j + 1, by go_num, by omega, by show _ = _; rw [HT.out, HA.out]; rfl, HK1.out⟩
    case measure => simp [intOf]; omega
  ·obtain rfl : j = n := by omega
   have h9 := HA.out
   rw [List.take_of_length_le (by have := HL.out; omega)] at h9
   have H9 := Lib.hid h9
   clear h9
   go_wp2_with fail
   go_ret
   exact ⟨by rw [H9.out]; rfl, HKR.out⟩

theorem maybe6_is (b n : Nat) (l : List Nm) (w : World) (hl : l.length = n) (hn : n ≤ 4611686018427387904) (h : NmsIn w b l) :
  Calls Tryz.prog 215 #[.slice (some ⟨b, 0, none⟩) n n] w fun e w' => e = .returned (.bool (l.all fun m => nameOk m.d)) ∧ Keeps [] w w' := by
 have HE := Lib.hid (eachd_is b n l w hl hn h)
 clear h hl hn
 go_enter Tryz.func215, Tryz.ntmps215
 go_wp2_with fail
 refine HE.out.mono ?_
 rintro e w1 ⟨rfl, hk1⟩
 have HK1 := Lib.hid hk1
 clear hk1
 go_wp2_with fail
 go_ret
 exact ⟨rfl, HK1.out⟩

/-- One name, laid in a row of its own. -/
theorem one_name (w : World) (A : Option Addr) (n c : Nat) (d : List Part6) (t : TypeId) (hn : n ≤ 4611686018427387904) (h : DnIn w A n d) : NmsIn (w.alloc (.cells #[.slice A n c] t)) w.heap.size [⟨A, n, c, d⟩] := fun i m hi => by
 cases i with
 | zero =>
  simp at hi
  subst hi
  refine ⟨?_, hn, h.grow ((Keeps.refl [] w).alloc _)⟩
  rw [cell_of_blk (heap_new8 w _)]
  rfl
 | succ i => simp at hi

theorem check6_is (A : Option Addr) (n c : Nat) (d : List Part6) (w : World) (hn : n ≤ 4611686018427387904) (h : DnIn w A n d) :
  Calls Tryz.prog 149 #[.slice A n c] w fun e w' => e = .returned (.int .i64 (if nameOk d then 0 else 2)) ∧ Keeps [] w w' := by
 have HM := Lib.hid (maybe6_is w.heap.size 1 [⟨A, n, c, d⟩] _ rfl (by decide) (one_name w A n c d 45 hn h))
 simp only [List.all_cons, List.all_nil, Bool.and_true] at HM
 obtain ⟨r, hr⟩ : ∃ r, nameOk d = r := ⟨_, rfl⟩
 rw [hr] at HM ⊢
 clear h hn hr
 have HK0 : Hid (Keeps [] w (w.alloc (.cells #[.slice A n c] 45))) := (Keeps.refl [] w).alloc _
 go_enter Tryz.func149, Tryz.ntmps149
 go_wp2_with fail
 refine HM.out.mono ?_
 rintro e w1 ⟨rfl, hk1⟩
 have HK1 := Lib.hid (HK0.out.trans' hk1)
 clear hk1
 cases r
 ·go_wp2_with fail
  go_ret
  exact ⟨rfl, HK1.out⟩
 ·go_wp2_with fail
  go_ret
  exact ⟨rfl, HK1.out⟩

end Go.Proofs.YtbfebljahjmjfaaGreatDoor
/- dn: the document's letter; walked (where there is no more of dn's reference). -/
namespace Go.Proofs.YtbfebljahjmjfaaGreatDoor
open Go.RowKit Go.Shelf
set_option linter.unusedVariables false
set_option linter.unusedSimpArgs false
set_option maxRecDepth 100000

/-- A plain letter, small or great. -/
def letr1 (c : UInt8) : Bool := (decide (65 ≤ c.toNat) && decide (c.toNat ≤ 90)) || (decide (97 ≤ c.toNat) && decide (c.toNat ≤ 122))
theorem rletter_is (c : UInt8) (w : World) : Calls Tryz.prog 208 #[.int .u8 (c.toNat : Int)] w fun e w' => e = .returned (.bool (letr1 c)) ∧ w = w' := by
 have hc : c.toNat < 256 := c.toNat_lt
 obtain ⟨r, hr⟩ : ∃ r, letr1 c = r := ⟨_, rfl⟩
 rw [hr]
 unfold letr1 at hr
 go_enter Tryz.func208, Tryz.ntmps208
 rcases Nat.lt_or_ge c.toNat 65 with h1 | h1
 ·obtain rfl : r = false := by rw [← hr]; simp; omega
  have h3 : ¬ 97 ≤ c.toNat := by omega
  clear hr
  go_wp2_with fail
  go_ret
  exact ⟨rfl, rfl⟩
 ·rcases Nat.lt_or_ge 90 c.toNat with h2 | h2
  ·have hb9 : decide ((c.toNat : Int) ≤ 90) = false := by simp; omega
   rcases Nat.lt_or_ge c.toNat 97 with h3 | h3
   ·obtain rfl : r = false := by rw [← hr]; simp; omega
    clear hr
    go_wp2_with fail
    go_ret
    exact ⟨rfl, rfl⟩
   ·rcases Nat.lt_or_ge 122 c.toNat with h4 | h4
    ·obtain rfl : r = false := by rw [← hr]; simp; omega
     have hb : decide ((c.toNat : Int) ≤ 122) = false := by simp; omega
     clear hr
     go_wp2_with fail
     go_ret
     exact ⟨by rw [← hb]; rfl, rfl⟩
    ·obtain rfl : r = true := by rw [← hr]; simp; omega
     have hb : decide ((c.toNat : Int) ≤ 122) = true := by simp; omega
     clear hr
     go_wp2_with fail
     go_ret
     exact ⟨by rw [← hb]; rfl, rfl⟩
  ·obtain rfl : r = true := by rw [← hr]; simp; omega
   clear hr
   go_wp2_with fail
   go_ret
   exact ⟨rfl, rfl⟩


end Go.Proofs.YtbfebljahjmjfaaGreatDoor
/- dn: the document's Name; walked. -/
namespace Go.Proofs.YtbfebljahjmjfaaGreatDoor
open Go.RowKit Go.Shelf
set_option linter.unusedVariables false
set_option linter.unusedSimpArgs false
set_option maxRecDepth 100000

/-- What may stand in a name, in whatever letters. -/
def nam1 (c : UInt8) : Bool := letr1 c || (decide (48 ≤ c.toNat) && decide (c.toNat ≤ 57)) || decide (c.toNat = 45)
def nameT (s : List UInt8) : Bool := decide (1 ≤ s.length) && (decide (s.length ≤ 64) && ((s.head?.map letr1).getD false && s.all nam1))

theorem rname_is (xs : List UInt8) (w : World) (hx : xs.length ≤ 9223372036854775807) : Calls Tryz.prog 140 #[.string ⟨xs.toArray⟩] w fun e w' => e = .returned (.bool (nameT xs)) ∧ w = w' := by
 obtain ⟨r, hr⟩ : ∃ r, nameT xs = r := ⟨_, rfl⟩
 rw [hr]
 unfold nameT at hr
 have HR := Lib.hid hr
 clear hr
 rcases Nat.eq_zero_or_pos xs.length with h0 | h0
 ·have hxe : xs = [] := List.length_eq_zero_iff.1 h0
  subst hxe
  obtain rfl : r = false := by rw [← HR.out]; rfl
  clear hx h0
  go_enter Tryz.func140, Tryz.ntmps140
  go_wp2_with fail
  go_ret
  exact ⟨rfl, rfl⟩
 ·obtain ⟨u, hu⟩ : ∃ u, xs[0]? = some u := ⟨_, List.getElem?_eq_getElem h0⟩
  have hix := str_at xs 0 u hu
  rw [show (((0 : Nat)) : Int) = 0 from rfl] at hix
  have hhd : (xs.head?.map letr1).getD false = letr1 u := by
   cases xs with
   | nil => simp at h0
   | cons y ys => simp at hu; subst hu; rfl
  have HHD := Lib.hid hhd
  have HLT := Lib.hid (rletter_is u w)
  have hg : ¬ (xs.length : Int) < 1 := by omega
  clear hhd hu
  rcases Nat.lt_or_ge 64 xs.length with h1 | h1
  ·obtain rfl : r = false := by
    rw [← HR.out, show decide (xs.length ≤ 64) = false by simp; omega]; simp
   have hg2 : (64 : Int) < (xs.length : Int) := by omega
   clear h1 hx
   go_enter Tryz.func140, Tryz.ntmps140
   go_wp2_with fail
   go_ret
   exact ⟨rfl, rfl⟩
  ·have hg3 : ¬ (64 : Int) < (xs.length : Int) := by omega
   have HV : Hid (r = (letr1 u && xs.all nam1)) := by
    show _ = _
    rw [← HR.out, HHD.out, show decide (xs.length ≤ 64) = true by simp; omega, show decide (1 ≤ xs.length) = true by simp; omega]
    simp
   obtain ⟨l, hl⟩ : ∃ l, letr1 u = l := ⟨_, rfl⟩
   rw [hl] at HLT HV
   have H64 := Lib.hid h1
   clear hl h0 h1 HR HHD hx
   go_enter Tryz.func140, Tryz.ntmps140
   go_wp2_with fail
   refine HLT.out.mono ?_
   rintro e w1 ⟨rfl, rfl⟩
   cases l
   ·obtain rfl : r = false := by rw [HV.out]; rfl
    go_wp2_with fail
    go_ret
    exact ⟨rfl, rfl⟩
   ·have HV2 : Hid (r = xs.all nam1) := by show _ = _; rw [HV.out]; rfl
    clear HV hix
    go_wp2_with fail
    obtain ⟨V, rfl⟩ : ∃ V : World, V = w := ⟨_, rfl⟩
    go_loopw [3] (fun i wr => ∃ j : Nat, i = .int .i64 (j : Int) ∧ j ≤ xs.length ∧ Hid ((xs.take j).all nam1 = true) ∧ wr = V) (fun i _ => xs.length - (intOf i).toNat)
    case atStart => exact ⟨0, rfl, Nat.zero_le _, rfl, rfl⟩
    case round =>
     obtain ⟨j, rfl, hj, HA, rfl⟩ := hrel
     by_cases hlt : j < xs.length
     ·obtain ⟨y, hy⟩ : ∃ y, xs[j]? = some y := ⟨_, List.getElem?_eq_getElem hlt⟩
      have hiy := str_at xs j y hy
      have hyl : y.toNat < 256 := y.toNat_lt
      have HL := Lib.hid (rletter_is y wr)
      have HT := Lib.hid (all_take2 (p := nam1) hy)
      have HC := Lib.hid (fun h => all_cut2 (p := nam1) hy h)
      obtain ⟨q, hq⟩ : ∃ q, nam1 y = q := ⟨_, rfl⟩
      rw [hq] at HT HC
      unfold nam1 at hq
      obtain ⟨m, hm⟩ : ∃ m, letr1 y = m := ⟨_, rfl⟩
      rw [hm] at HL hq
      clear hy hm
      go_wp2_with fail
      refine HL.out.mono ?_
      rintro e w1 ⟨rfl, rfl⟩
      cases m
      ·by_cases hdg : 48 ≤ y.toNat ∧ y.toNat ≤ 57
       ·obtain ⟨d1, d2⟩ := hdg
        obtain rfl : q = true := by rw [← hq]; simp; omega
        have e1 : ¬ y.toNat < 48 := by omega
        have e2 : ¬ 57 < y.toNat := by omega
        clear hq
        go_wp2_with fail
        go_roundw
        case rel => exact ⟨j + 1, by go_num, by omega, by show _ = _; rw [HT.out, HA.out]; rfl, trivial⟩
        case measure => simp [intOf]; omega
       ·by_cases h45 : y.toNat = 45
        ·obtain rfl : q = true := by rw [← hq, h45]; rfl
         have h45i : (y.toNat : Int) = 45 := by omega
         have e1 : y.toNat < 48 := by omega
         clear hq hdg h45
         go_wp2_with fail
         go_roundw
         case rel => exact ⟨j + 1, by go_num, by omega, by show _ = _; rw [HT.out, HA.out]; rfl, trivial⟩
         case measure => simp [intOf]; omega
        ·obtain rfl : q = false := by rw [← hq]; simp [h45]; omega
         have h45i : ¬ (y.toNat : Int) = 45 := by omega
         have h45b : ((y.toNat : Int) == 45) = false := by simpa using h45i
         clear hq h45
         rcases Nat.lt_or_ge y.toNat 48 with e1 | e1
         ·clear hdg
          go_wp2_with fail
          go_ret
          exact ⟨by rw [HV2.out, HC.out (by first | exact trivial | rfl)]; rfl, rfl⟩
         ·have e2 : 57 < y.toNat := by omega
          have e1' : ¬ y.toNat < 48 := by omega
          have e2b : decide ((57 : Int) < (y.toNat : Int)) = true := by simp; omega
          clear hdg e1
          go_wp2_with fail
          go_ret
          exact ⟨by rw [HV2.out, HC.out (by first | exact trivial | rfl)]; rfl, rfl⟩
      ·obtain rfl : q = true := by rw [← hq]; rfl
       clear hq
       go_wp2_with fail
       go_roundw
       case rel => exact ⟨j + 1, by go_num, by omega, by show _ = _; rw [HT.out, HA.out]; rfl, trivial⟩
       case measure => simp [intOf]; omega
     ·obtain rfl : j = xs.length := by omega
      have h9 := HA.out
      rw [List.take_length] at h9
      have H9 := Lib.hid (HV2.out.trans h9)
      clear h9
      go_wp2_with fail
      go_ret
      exact ⟨by rw [H9.out]; rfl, rfl⟩

end Go.Proofs.YtbfebljahjmjfaaGreatDoor
/- dn: what may be a Type is a name in small letters: as words. -/
namespace Go.Proofs.YtbfebljahjmjfaaGreatDoor
open Go.RowKit Go.Shelf
set_option linter.unusedVariables false
set_option linter.unusedSimpArgs false

theorem small1_same (c : UInt8) : (small1 c == c) = !(decide (65 ≤ c.toNat) && decide (c.toNat ≤ 90)) := by
 rw [Bool.eq_iff_iff, beq_iff_eq]
 constructor
 ·intro h
  have h1 := small1_nat c
  rw [h] at h1
  split at h1
  ·omega
  ·rename_i hn
   simp
   omega
 ·intro h
  apply UInt8.toNat_inj.1
  rw [small1_nat, if_neg (by simp at h; omega)]
theorem letr_small (c : UInt8) : (letr1 c && (small1 c == c)) = let1 c := by
 rw [small1_same]
 unfold letr1 let1
 rw [Bool.eq_iff_iff]
 simp
 omega
theorem nam_small (c : UInt8) : (nam1 c && (small1 c == c)) = typ1 c := by
 rw [small1_same]
 unfold nam1 typ1 letr1 let1
 rw [Bool.eq_iff_iff]
 simp
 omega
theorem smallL_same : ∀ s : List UInt8, (smallL s == s) = s.all fun c => small1 c == c
 | [] => rfl
 | c :: r => by
  have h := smallL_same r
  have e : (smallL (c :: r) == c :: r) = ((small1 c == c) && (smallL r == r)) := rfl
  rw [e, h]
  rfl
theorem all_both {p q r : UInt8 → Bool} (h : ∀ c, (p c && q c) = r c) : ∀ s : List UInt8, (s.all p && s.all q) = s.all r
 | [] => rfl
 | c :: s => by
  have h1 := all_both h s
  simp only [List.all_cons]
  rw [← h1, ← h c]
  cases p c <;> cases q c <;> cases s.all p <;> cases s.all q <;> rfl
theorem type_name (s : List UInt8) : typeOk s = (nameT s && (smallL s == s)) := by
 unfold typeOk nameT
 rw [smallL_same]
 cases s with
 | nil => rfl
 | cons c r =>
  have h1 := all_both nam_small (c :: r)
  have h2 := letr_small c
  rw [← h1]
  simp only [List.head?_cons, Option.map_some, Option.getD_some]
  rw [← h2]
  simp only [List.all_cons]
  cases decide (1 ≤ (c :: r).length) <;> cases decide ((c :: r).length ≤ 64) <;> cases letr1 c <;> cases (small1 c == c) <;> cases nam1 c <;> cases r.all nam1 <;> cases (r.all fun c => small1 c == c) <;> rfl

end Go.Proofs.YtbfebljahjmjfaaGreatDoor
/- entry: texts in memory; isLong, isName, mayBe; walked. -/
namespace Go.Proofs.YtbfebljahjmjfaaGreatDoor
open Go.RowKit Go.Shelf
set_option linter.unusedVariables false
set_option linter.unusedSimpArgs false
set_option maxRecDepth 100000

/-- Texts in memory, one behind the other. -/
def StrsIn (w : World) (A : Option Addr) (n : Nat) (l : List Txt) : Prop :=
 l.length = n ∧ (∀ s ∈ l, s.length ≤ 9223372036854775807) ∧ (0 < n → ∃ b o, A = some ⟨b, o, none⟩ ∧ ∀ (i : Nat) (s : Txt), l[i]? = some s → w.cell? ⟨b, o + i, none⟩ = some (tv s))
theorem StrsIn.grow {w w' : World} {A : Option Addr} {n : Nat} {l : List Txt} (hk : Keeps [] w w') (h : StrsIn w A n l) : StrsIn w' A n l := by
 obtain ⟨h1, h2, h3⟩ := h
 refine ⟨h1, h2, fun hp => ?_⟩
 obtain ⟨b, o, e, hc⟩ := h3 hp
 exact ⟨b, o, e, fun i s hi => (hk.cell (lt_of_cell (hc i s hi)) (by simp)).trans (hc i s hi)⟩
theorem StrsIn.keep {w w' : World} {A : Option Addr} {n : Nat} {l : List Txt} {bs : List Nat} (hk : Keeps bs w w') (h : StrsIn w A n l) (hb : ∀ b o, A = some ⟨b, o, none⟩ → b ∉ bs) : StrsIn w' A n l := by
 obtain ⟨h1, h2, h3⟩ := h
 refine ⟨h1, h2, fun hp => ?_⟩
 obtain ⟨b, o, e, hc⟩ := h3 hp
 exact ⟨b, o, e, fun i s hi => (hk.cell (lt_of_cell (hc i s hi)) (hb b o e)).trans (hc i s hi)⟩
theorem StrsIn.nil (w : World) (A : Option Addr) : StrsIn w A 0 [] := ⟨rfl, by simp, fun h => by omega⟩
theorem StrsIn.of_own {w : World} {B n c : Nat} {A : Option Addr} {t : TypeId} {l : List Txt} (h : w.ownsRow B t 1 (.slice A n c) n (l.map tv)) (hn : l.length = n) (hl : ∀ s ∈ l, s.length ≤ 9223372036854775807) : StrsIn w A n l := by
 refine ⟨hn, hl, fun hp => ?_⟩
 rcases h.2 with ⟨_, h2⟩ | ⟨g, cap, cur, hA, hg, hh, r⟩
 ·omega
 ·injection hA with e1 e2 e3
  subst e1
  refine ⟨g, 0, rfl, fun i s hi => ?_⟩
  have c1 := h.cells (g := g) rfl i (tv s) (by rw [List.getElem?_map, hi]; rfl)
  rw [show (⟨g, 0, none⟩ : Addr).add i = ⟨g, 0 + i, none⟩ from by unfold Addr.add; split <;> simp_all] at c1
  exact c1

theorem one_rdn (w : World) (r : Part6) (t : TypeId) (h1 : r.1.length ≤ 9223372036854775807) (h2 : r.2.length ≤ 9223372036854775807) : DnIn (w.alloc (.cells #[tv r.1, tv r.2] t)) (some ⟨w.heap.size, 0, none⟩) 1 [r] := by
 refine ⟨rfl, fun p hp => ?_, fun _ => ⟨w.heap.size, 0, rfl, fun i p hi => ?_⟩⟩
 ·simp at hp
  subst hp
  exact ⟨h1, h2⟩
 ·cases i with
  | zero =>
   simp at hi
   subst hi
   exact two_facts6 (heap_new8 w _)
  | succ i => simp at hi

/-- More attributes, or Values of one, than may be. -/
def longN (n m : Nat) : Bool := decide (24 < n) || decide (16 < m)
theorem islong_is (n m : Nat) (w : World) : Calls Tryz.prog 186 #[.int .i64 (n : Int), .int .i64 (m : Int)] w fun e w' => e = .returned (.bool (longN n m)) ∧ w = w' := by
 obtain ⟨r, hr⟩ : ∃ r, longN n m = r := ⟨_, rfl⟩
 rw [hr]
 unfold longN at hr
 rcases Nat.lt_or_ge 24 n with h1 | h1
 ·have hg : (24 : Int) < (n : Int) := by omega
  obtain rfl : r = true := by rw [← hr, show decide (24 < n) = true by simp; omega]; rfl
  clear hr h1
  go_enter Tryz.func186, Tryz.ntmps186
  go_wp2_with fail
  go_ret
  exact ⟨rfl, rfl⟩
 ·have hg : ¬ (24 : Int) < (n : Int) := by omega
  have hr2 : decide ((16 : Int) < (m : Int)) = r := by
   rw [← hr, show decide (24 < n) = false by simp; omega, Bool.false_or]
   exact decide_eq_decide.2 (by omega)
  clear hr h1
  go_enter Tryz.func186, Tryz.ntmps186
  go_wp2_with fail
  go_ret
  exact ⟨by rw [← hr2]; first | rfl | simp, rfl⟩

theorem name_low (s : Txt) : typeOk (smallL s) = nameT s := by
 have letr_low : ∀ c : UInt8, letr1 (small1 c) = letr1 c := fun c => by
  have h := small1_nat c
  unfold letr1
  rw [h, Bool.eq_iff_iff]
  split <;> simp <;> omega
 have nam_low : ∀ c : UInt8, nam1 (small1 c) = nam1 c := fun c => by
  have h := small1_nat c
  unfold nam1
  rw [letr_low, h, Bool.eq_iff_iff]
  unfold letr1
  split <;> simp <;> omega
 have h0 : nameT (smallL s) = nameT s := by
  have h1 : (smallL s).all nam1 = s.all nam1 := by
   unfold smallL
   rw [List.all_map]
   congr 1
   funext c
   exact nam_low c
  unfold nameT
  rw [h1, smallL_len]
  cases s with
  | nil => rfl
  | cons c r =>
   have h2 : (smallL (c :: r)).head? = some (small1 c) := rfl
   rw [h2]
   simp only [Option.map_some, Option.getD_some, List.head?_cons, letr_low]
 rw [type_name, h0, smallL_idem]
 simp

theorem isname_is (s : Txt) (w : World) (hs : s.length ≤ 9223372036854775807) : Calls Tryz.prog 285 #[.string ⟨s.toArray⟩] w fun e w' => e = .returned (.bool (nameT s)) ∧ Keeps [] w w' := by
 have HSM := Lib.hid (small_is s w hs)
 have hsl : (smallL s).length ≤ 9223372036854775807 := by rw [smallL_len]; exact hs
 have hok : nameOk [(smallL s, [97, 110, 121])] = nameT s := by
  unfold nameOk partOk
  simp only [List.all_cons, List.all_nil, Bool.and_true, name_low, List.length_cons, List.length_nil]
  cases nameT s <;> rfl
 obtain ⟨z, hz⟩ : ∃ z, smallL s = z := ⟨_, rfl⟩
 rw [hz] at HSM hsl hok
 obtain ⟨r, hr⟩ : ∃ r, nameT s = r := ⟨_, rfl⟩
 rw [hr] at hok ⊢
 have HCH := Lib.hid (fun X : World => check6_is (some ⟨X.heap.size, 0, none⟩) 1 1 [(z, [97, 110, 121])] _ (by decide) (one_rdn X (z, [97, 110, 121]) 63 hsl (by simp)))
 rw [hok] at HCH
 clear hz hr hok hs hsl
 go_enter Tryz.func285, Tryz.ntmps285
 go_wp2_with fail
 refine HSM.out.mono ?_
 rintro e w1 ⟨rfl, hk1⟩
 have HK1 := Lib.hid hk1
 clear hk1
 go_wp2_with fail
 refine (HCH.out w1).mono ?_
 rintro e w2 ⟨rfl, hk2⟩
 have HK2 : Hid (Keeps [] w w2) := (HK1.out.alloc _).trans' hk2
 clear hk2
 cases r
 ·simp only [Bool.false_eq_true, if_false]
  go_wp2_with fail
  go_ret
  exact ⟨rfl, HK2.out⟩
 ·simp only [if_true]
  go_wp2_with fail
  go_ret
  exact ⟨rfl, HK2.out⟩

/-- May a text be a Value? -/
def valOk (s : Txt) : Bool := decide (1 ≤ s.length) && decide (s.length ≤ 2048)
def maybeA (name : Txt) (vs : List Txt) : Bool := vs.all valOk && nameT name
theorem vals_take {vs : List Txt} {j : Nat} {s : Txt} (h : vs[j]? = some s) : (vs.take (j + 1)).all valOk = ((vs.take j).all valOk && valOk s) := by
 rw [List.take_add_one, h, List.all_append]
 simp
theorem vals_cut {vs : List Txt} {j : Nat} {s : Txt} (h : vs[j]? = some s) (h2 : valOk s = false) : vs.all valOk = false := by
 rw [List.all_eq_false]
 exact ⟨s, List.mem_of_getElem? h, by simp [h2]⟩

set_option maxHeartbeats 4000000 in
theorem maybe7_is (name : Txt) (A : Option Addr) (n c : Nat) (vs : List Txt) (w : World) (hs : name.length ≤ 9223372036854775807) (h : StrsIn w A n vs) (hn : n ≤ 9223372036854775807) :
  Calls Tryz.prog 242 #[.string ⟨name.toArray⟩, .slice A n c] w fun e w' => e = .returned (.bool (maybeA name vs)) ∧ Keeps [] w w' := by
 have HD := Lib.hid h
 have HNM := Lib.hid (isname_is name w hs)
 obtain ⟨nm, hnm⟩ : ∃ nm, nameT name = nm := ⟨_, rfl⟩
 have HR : Hid (maybeA name vs = (vs.all valOk && nm)) := by show _ = _; unfold maybeA; rw [hnm]
 rw [hnm] at HNM
 obtain ⟨V, hV⟩ : ∃ V : World, V = w := ⟨_, rfl⟩
 subst hV
 have HV : Hid (StrsIn V A n vs) := h
 clear h hs hnm
 go_enter Tryz.func242, Tryz.ntmps242
 go_wp2_with fail
 refine wp_scope_once 0 rfl ?_
 go_wp2_with fail
 go_loopw [9] (fun i wr => ∃ j : Nat, i = .int .i64 (j : Int) ∧ j ≤ n ∧ Hid ((vs.take j).all valOk = true) ∧ wr = V) (fun i _ => n - (intOf i).toNat)
 case atStart => exact ⟨0, rfl, Nat.zero_le _, rfl, rfl⟩
 case round =>
  obtain ⟨j, rfl, hj, HA, rfl⟩ := hrel
  by_cases hlt : j < n
  ·obtain ⟨hl, hp, hc9⟩ := HV.out
   obtain ⟨b, o, hA9, hcc⟩ := hc9 (by omega)
   subst hA9
   obtain ⟨s, hu⟩ : ∃ s, vs[j]? = some s := ⟨_, List.getElem?_eq_getElem (by omega)⟩
   have c0 := hcc j s hu
   have hsl := hp s (List.mem_of_getElem? hu)
   have HT := Lib.hid (vals_take hu)
   have HC := Lib.hid (fun h => vals_cut hu h)
   unfold tv at c0
   obtain ⟨q, hq⟩ : ∃ q, valOk s = q := ⟨_, rfl⟩
   rw [hq] at HT HC
   unfold valOk at hq
   obtain ⟨m, hm⟩ : ∃ m, s.length = m := ⟨_, rfl⟩
   have hTL : (⟨s.toArray⟩ : ByteArray).size = m := hm
   rw [hm] at hq
   have hji : (j : Int) < (n : Int) := by omega
   clear hcc hu hp hl hc9 hsl hm
   rcases Nat.eq_zero_or_pos m with h0 | h0
   ·obtain rfl : q = false := by rw [← hq, h0]; rfl
    have hg : (m : Int) < 1 := by omega
    clear hq h0
    go_wp2_with fail
    go_step3
    refine ⟨rfl, ?_⟩
    go_wp2
    rw [Exit.noGoto_ret]
    go_ret
    exact ⟨by rw [HR.out, HC.out (by first | exact trivial | rfl)]; rfl, Keeps.refl _ _⟩
   ·have hg : ¬ (m : Int) < 1 := by omega
    rcases Nat.lt_or_ge 2048 m with h2 | h2
    ·obtain rfl : q = false := by rw [← hq, show decide (m ≤ 2048) = false by simp; omega]; simp
     have hg2 : (2048 : Int) < (m : Int) := by omega
     clear hq h0 h2
     go_wp2_with fail
     go_step3
     refine ⟨rfl, ?_⟩
     go_wp2
     rw [Exit.noGoto_ret]
     go_ret
     exact ⟨by rw [HR.out, HC.out (by first | exact trivial | rfl)]; rfl, Keeps.refl _ _⟩
    ·obtain rfl : q = true := by rw [← hq, show decide (m ≤ 2048) = true by simp; omega, show decide (1 ≤ m) = true by simp; omega]; rfl
     have hg2 : ¬ (2048 : Int) < (m : Int) := by omega
     clear hq h0 h2
     go_wp2_with fail
     go_roundw
     case rel => exact ⟨j + 1, by go_num, by omega, by show _ = _; rw [HT.out, HA.out]; rfl, trivial⟩
     case measure => simp [intOf]; omega
  ·obtain rfl : j = n := by omega
   have h9 := HA.out
   rw [List.take_of_length_le (by rw [HV.out.1]; exact Nat.le_refl _)] at h9
   have H9 : Hid (maybeA name vs = nm) := by show _ = _; rw [HR.out, h9]; rfl
   clear h9
   go_wp2_with fail
   refine HNM.out.mono ?_
   rintro e w1 ⟨rfl, hk1⟩
   have HK1 := Lib.hid hk1
   clear hk1
   cases nm
   ·go_wp2_with fail
    go_step3
    refine ⟨rfl, ?_⟩
    go_wp2
    rw [Exit.noGoto_ret]
    go_ret
    exact ⟨by rw [H9.out]; rfl, HK1.out⟩
   ·go_wp2_with fail
    simp only [Exit.jump]
    go_ret
    exact ⟨by rw [H9.out]; rfl, HK1.out⟩
end Go.Proofs.YtbfebljahjmjfaaGreatDoor
/- entry: slices.Values, and what is gathered of it. -/
namespace Go.Proofs.YtbfebljahjmjfaaGreatDoor
open Go.RowKit Go.Shelf
set_option linter.unusedVariables false
set_option linter.unusedSimpArgs false
attribute [local go_sem] Oper.semAt_some

theorem values_is (A : Option Addr) (n c : Nat) (w : World) : Calls Tryz.prog 287 #[.slice A n c] w fun e w' => e = .returned (.func (.func 321) #[] #[.pointer (some ⟨w.heap.size, 0, none⟩)]) ∧ w.alloc (.cells #[.slice A n c] 68) = w' := by
 go_enter Tryz.func287, Tryz.ntmps287
 go_wp2_with fail
 go_ret
 exact ⟨rfl, rfl⟩

set_option maxRecDepth 100000 in
set_option maxHeartbeats 2000000 in
theorem viter_in (F : Fence) (n : Nat) (hf : F.fn 321) (hro : F.round = none) (hn : 1 ≤ n) (lp Bs n₀ len c : Nat) (A : Option Addr) (l : List Txt) (hm : len ≤ 9223372036854775807) (J Jx : List Txt → World → Prop)
  (hY : ∀ pre x W, J pre W → pre.length < l.length → YieldAt F (n - 1) Tryz.prog lp #[tv x] W fun e W' =>
   (e = .returned (.bool true) ∧ J (pre ++ [x]) W' ∧ Below n₀ W W') ∨ (e = .returned (.bool false) ∧ Jx (pre ++ [x]) W'))
  (W : World) (hBs : W.cell? ⟨Bs, 0, none⟩ = some (.slice A len c)) (hP : StrsIn W A len l) (hA : 0 < len → ∀ b o, A = some ⟨b, o, none⟩ → b < n₀) (h0 : J [] W) :
  CallsIn F n Tryz.prog 321 #[.func (.yield lp) #[] #[], .pointer (some ⟨Bs, 0, none⟩)] W fun e W' => (∃ v, e = .returned v) ∧
   ((∃ ys, ys = l ∧ J ys W') ∨ (∃ pre, True ∧ Jx pre W')) := by
 have HP := Lib.hid hP
 clear hP
 refine callsIn_of_wp Tryz.func321 rfl hf ?_ hro
 simp only [Tryz.ntmps321, List.size_toArray, List.length_cons, List.length_nil, Nat.reduceAdd, Nat.reduceSub, Array.replicate_succ, Array.replicate_zero, List.push_toArray, List.append_toArray, List.nil_append, List.cons_append]
 gi_wp2
 gi_loopw [4, 7] (fun v i wr => ∃ j : Nat, j ≤ len ∧ i = .int .i64 (j : Int) ∧ J (l.take j) wr ∧ Hid (Below n₀ W wr)) (fun _ i _ => len - (intOf i).toNat)
 case atStart => exact ⟨0, Nat.zero_le _, rfl, by simpa using h0, Below.refl _ _⟩
 case round =>
  obtain ⟨j, hj, rfl, hJ, HK⟩ := hrel
  by_cases hlt : j < len
  ·obtain ⟨hl, hp, hc9⟩ := HP.out
   obtain ⟨b, o, hA9, hcc⟩ := hc9 (by omega)
   have hb := hA (by omega) b o hA9
   subst hA9
   obtain ⟨s, hu⟩ : ∃ s, l[j]? = some s := ⟨_, List.getElem?_eq_getElem (by omega)⟩
   have htk : l.take (j + 1) = l.take j ++ [s] := by rw [List.take_add_one, hu]; rfl
   have c1 := (HK.out.cell (p := ⟨b, o + j, none⟩) hb).trans (hcc j s hu)
   have hJl : (l.take j).length < l.length := by rw [List.length_take]; omega
   obtain ⟨fn, tmps, assign, body, hy, hR⟩ := hY (l.take j) s wr hJ hJl
   have HT := Lib.hid htk
   unfold tv at c1 hy
   have hji : (j : Int) < (len : Int) := by omega
   clear hcc hu hc9 hp hl hJl htk hb
   gi_wp2
   refine hR.mono ?_
   rintro e W3 (⟨rfl, hJ3, hk3⟩ | ⟨rfl, hJx3⟩)
   ·have hJ4 : J (l.take (j + 1)) W3 := by rw [HT.out]; exact hJ3
    have HK3 := Lib.hid (HK.out.trans hk3)
    gi_wp2
    go_roundw
    case rel => exact ⟨j + 1, by omega, by simp, hJ4, HK3⟩
    case measure => simp [intOf]; omega
   ·gi_wp2
    refine bodyPost_ret (results_none rfl _ _ _) rfl ?_
    exact ⟨⟨_, rfl⟩, .inr ⟨_, trivial, hJx3⟩⟩
  ·obtain rfl : j = len := by omega
   have hJ4 : J l wr := by
    rw [List.take_of_length_le (by rw [HP.out.1]; exact Nat.le_refl _)] at hJ
    exact hJ
   gi_wp2
   go_end0
   exact ⟨⟨_, rfl⟩, .inl ⟨_, rfl, hJ4⟩⟩

theorem viter_stops (F : Fence) (n : Nat) (hf : F.fn 321) (hro : F.round = none) (hn : 1 ≤ n) (Bs n₀ len c : Nat) (A : Option Addr) (l : List Txt) (hm : len ≤ 9223372036854775807) (w : World) (hBs : Bs < w.heap.size) (hn₀ : n₀ ≤ w.heap.size)
  (hc : w.cell? ⟨Bs, 0, none⟩ = some (.slice A len c)) (hP : StrsIn w A len l) (hA : 0 < len → ∀ b o, A = some ⟨b, o, none⟩ → b < n₀) :
  SeqStopsK F n Tryz.prog 321 #[.pointer (some ⟨Bs, 0, none⟩)] (fun x : Txt => #[tv x]) (Below n₀) (fun ys => ys = l) (fun _ => True) l.length w := fun lp J Jx W hW _ _ hY h0 => by
 have hP2 : StrsIn W A len l := StrsIn.grow (Keeps.of_below hW) hP
 exact viter_in F n hf hro hn lp Bs n₀ len c A l hm J Jx hY W ((hW.cell (p := ⟨Bs, 0, none⟩) hBs).trans hc) hP2 hA h0
end Go.Proofs.YtbfebljahjmjfaaGreatDoor
