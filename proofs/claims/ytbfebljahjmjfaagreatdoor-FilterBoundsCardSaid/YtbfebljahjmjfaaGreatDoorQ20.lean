import Derived.Test.YtbfebljahjmjfaaGreatDoorQ19
import Derived.BigQuiet
import Derived.Shelf.Pu.SyntaxError
import Derived.Lib.IfaceEq
import Derived.Shelf.Pu.ToError
import Derived.Test.YtbfebljahjmjfaaGreatDoorRows
import Derived.Test.YtbfebljahjmjfaaGreatDoorQ17
import Derived.ProofKit
import Derived.LaidMore
import Derived.OpenShut
import Derived.Stop.Joined
import Derived.Stop.LaidErr
import Derived.Lib.LaidTab
import Derived.Test.YtbfebljahjmjfaaGreatDoorQ01
import Derived.Test.YtbfebljahjmjfaaGreatDoorProg
import Derived.WalkKit
import Derived.Laws.BitsAllLaws
import Derived.Recover
import Derived.Laws.Pointers
import Derived.Laws.EntriesVeiled
import Derived.Laws.OwnMore
/- filter: what takes off a text up to one of some bytes; walked. -/
namespace Go.Proofs.YtbfebljahjmjfaaGreatDoor
open Go.RowKit Go.Shelf
set_option linter.unusedVariables false
set_option linter.unusedSimpArgs false
set_option maxRecDepth 100000

theorem until8_yes (g : Nat) (T : Txt) (C : ByteArray) (n : Nat) (w : World) (h : RstAt w g T) (hn : n ≤ T.length)
  (hI : ∀ W, Calls Tryz.prog 204 #[tv T, .string C] W fun e w' => e = .returned (.int .i64 (n : Int)) ∧ Keeps [] W w') :
  Calls Tryz.prog 136 #[.pointer (some ⟨g, 0, none⟩), .string C] w fun e w' => e = .returned (tv (T.take n)) ∧ RstAt w' g (T.drop n) ∧ Keeps [g] w w' := by
 have HR := Lib.hid h
 obtain ⟨c0, f0⟩ := h.cells
 have HM := Lib.hid (must8_yes 180)
 have HI := Lib.hid hI
 have hto := rst_to8 T n hn
 have hfr := rst_from8 T n hn
 have hz : (0 : Int) ≤ (n : Int) := by omega
 clear hn h hI
 obtain ⟨u, hu⟩ : ∃ u, T.drop n = u := ⟨_, rfl⟩
 rw [hu] at hfr ⊢
 clear hu
 generalize T.take n = x at hto ⊢
 unfold tv at *
 go_enter Tryz.func136, Tryz.ntmps136
 go_wp2_with fail
 refine (HI.out _).mono ?_
 rintro e w1 ⟨rfl, hk⟩
 have HR1 := Lib.hid (HR.out.keep hk (by simp))
 have HK := Lib.hid hk
 clear hk c0 f0
 obtain ⟨c0, f0⟩ := HR1.out.cells
 have HR2 := Lib.hid (HR1.out.set u)
 have HK2 : Hid (Keeps [g] w (w1.setCell ⟨g, 0, none⟩ (.string ⟨u.toArray⟩))) := (HK.out.mono (by simp)).setCell (.inl (by simp)) _
 go_wp2_with fail
 refine (HM.out _).mono ?_
 rintro e w2 ⟨rfl, rfl⟩
 go_wp2_with fail
 go_ret
 exact ⟨rfl, HR2.out, HK2.out⟩
theorem until8_no (g : Nat) (T : Txt) (C : ByteArray) (w : World) (h : RstAt w g T)
  (hI : ∀ W, Calls Tryz.prog 204 #[tv T, .string C] W fun e w' => e = .returned (.int .i64 (-1)) ∧ Keeps [] W w') :
  Calls Tryz.prog 136 #[.pointer (some ⟨g, 0, none⟩), .string C] w fun e w' => e = gaveUp8 180 ∧ Keeps [g] w w' := by
 obtain ⟨c0, f0⟩ := h.cells
 have HM := Lib.hid (must8_no 180)
 have HI := Lib.hid hI
 clear h hI
 unfold tv at *
 go_enter Tryz.func136, Tryz.ntmps136
 go_wp2_with fail
 refine (HI.out _).mono ?_
 rintro e w1 ⟨rfl, hk⟩
 have HK := Lib.hid hk
 clear hk
 go_wp2_with fail
 refine (HM.out _).mono ?_
 rintro e w2 ⟨rfl, rfl⟩
 go_wp2_with fail
 exact ⟨rfl, rfl, HK.out.mono (by simp)⟩
/-- How far a text goes ahead of the first of some bytes: none where there is none. -/
def untP (cs : Txt) : Txt → Option Nat
 | [] => none
 | b :: l => if cs.contains b then some 0 else (untP cs l).map (· + 1)
theorem untP_index (cs : Txt) : ∀ T : Txt, Lib.indexAny T cs = match untP cs T with | some n => (n : Int) | none => -1
 | [] => rfl
 | b :: l => by
  unfold Lib.indexAny untP
  rw [untP_index cs l]
  by_cases h : cs.contains b = true
  ·rw [if_pos h, if_pos h]; rfl
  ·rw [if_neg h, if_neg h]
   cases untP cs l with
   | none => rfl
   | some n =>
    show (if ((n : Int) == -1) = true then (-1 : Int) else (n : Int) + 1) = ((n + 1 : Nat) : Int)
    rw [if_neg (by intro e; have h9 : (n : Int) = -1 := eq_of_beq e; omega)]
    omega
theorem untP_le (cs : Txt) : ∀ (T : Txt) (n : Nat), untP cs T = some n → n < T.length
 | [], n, h => by cases h
 | b :: l, n, h => by
  unfold untP at h
  split at h
  ·cases h; simp
  ·obtain ⟨m, hm, rfl⟩ := Option.map_eq_some_iff.1 h
   have := untP_le cs l m hm
   simp only [List.length_cons]
   omega
end Go.Proofs.YtbfebljahjmjfaaGreatDoor
/- filter: two digits to the base 16, read by strconv; walked. -/
namespace Go.Proofs.YtbfebljahjmjfaaGreatDoor
open Go.RowKit Go.Shelf
set_option linter.unusedVariables false
set_option linter.unusedSimpArgs false
set_option maxRecDepth 100000

def dig1 (n : Nat) : Option Nat := if 48 ≤ n ∧ n ≤ 57 then some (n - 48) else if 97 ≤ n ∧ n ≤ 102 then some (n - 87) else if 65 ≤ n ∧ n ≤ 70 then some (n - 55) else none
theorem or_32 : ∀ n : Fin 256, bits BinOp.or IntKind.u8 (n.val : Int) 32 = ((n.val ||| 32 : Nat) : Int) := by decide +kernel
theorem dig_lo : ∀ n : Fin 256, dig1 n.val = if 48 ≤ n.val ∧ n.val ≤ 57 then some (n.val - 48) else if 97 ≤ (n.val ||| 32) ∧ (n.val ||| 32) ≤ 102 then some ((n.val ||| 32) - 87) else none := by decide +kernel
theorem lo_95 : ∀ n : Fin 256, n.val = 95 → (n.val ||| 32) = 127 := by decide +kernel
theorem lo_lt : ∀ n : Fin 256, (n.val ||| 32) < 256 := by decide +kernel

theorem lower_is (c : UInt8) (w : World) : Calls Tryz.prog 300 #[.int .u8 (c.toNat : Int)] w fun e w' => e = .returned (.int .u8 ((c.toNat ||| 32 : Nat) : Int)) ∧ w = w' := by
 have h := or_32 ⟨c.toNat, c.toNat_lt⟩
 simp only at h
 generalize ((c.toNat ||| 32 : Nat) : Int) = z at *
 go_enter Tryz.func300, Tryz.ntmps300
 go_wp2_with fail
 go_ret
 exact ⟨rfl, rfl⟩

/-- The number that digits to the base 16 are. -/
def hexN (l : List UInt8) : Option Nat := l.foldl (fun acc y => acc.bind fun N => (dig1 y.toNat).map fun k => 16 * N + k) (some 0)
theorem hexN_next {l : List UInt8} {j N : Nat} {u : UInt8} (hu : l[j]? = some u) (h : hexN (l.take j) = some N) : hexN (l.take (j + 1)) = (dig1 u.toNat).map fun k => 16 * N + k := by
 unfold hexN at *
 rw [List.take_add_one, hu, List.foldl_append, h]
 rfl
theorem hexN_bad : ∀ (r : List UInt8), r.foldl (fun acc y => acc.bind fun N => (dig1 y.toNat).map fun k => 16 * N + k) (none : Option Nat) = none
 | [] => rfl
 | y :: r => by simp only [List.foldl_cons, Option.bind_none]; exact hexN_bad r
theorem hexN_cut {l : List UInt8} {j : Nat} (h : hexN (l.take (j + 1)) = none) : hexN l = none := by
 have h9 := List.take_append_drop (j + 1) l
 unfold hexN at *
 rw [← h9, List.foldl_append, h]
 exact hexN_bad _
theorem dig_bound {n k : Nat} (h : dig1 n = some k) : k ≤ 15 := by
 unfold dig1 at h
 split at h
 ·injection h with h; omega
 ·split at h
  ·injection h with h; omega
  ·split at h
   ·injection h with h; omega
   ·cases h

abbrev puBad : Value := .tuple #[.int .u64 0, .iface 320 (.int .i64 2)]
/-- What a text of digits is read as. -/
def PuQ (R : Option Nat) (e : Ending) : Prop := (∀ N, R = some N → e = .returned (.tuple #[.int .u64 (N : Int), .nilIface])) ∧ (R = none → e = .returned puBad)
set_option maxHeartbeats 8000000 in
theorem ipu_is (l : List UInt8) (w : World) (hl : l.length = 2) :
  Calls Tryz.prog 264 #[.string ⟨l.toArray⟩, .int .i64 16, .int .i64 8] w fun e w' => PuQ (hexN l) e ∧ Keeps [] w w' := by
 obtain ⟨C, O, hcv, hcap, hrow⟩ := conv_row l (by omega)
 have hcv2 := hcv w
 have HBY : Hid (BytesAt (w.alloc (O w)).drew (.slice (some ⟨w.heap.size, 0, none⟩) l.length (C w)) l) := (hrow w).bytes (hcap w).1 (hcap w).2
 have HK1 : Hid (Keeps [] w (w.alloc (O w)).drew) := ((Keeps.refl [] w).alloc _).drew
 have HLL := Lib.hid hl
 have hem : l.isEmpty = false := by cases l with | nil => simp at hl | cons a b => rfl
 rw [hl] at HBY hcv2
 obtain ⟨R, hR⟩ : ∃ R, hexN l = R := ⟨_, rfl⟩
 have HR := Lib.hid hR
 rw [hR]
 clear hcv hcap hrow hl hR
 go_enter Tryz.func264, Tryz.ntmps264
 go_wp2_with fail
 generalize (w.alloc (O w)).drew = W1 at *
 generalize C w = cv at *
 clear hcv2
 go_loopw [12, 13, 101] (fun b n i wr => ∃ (j N : Nat), b = .bool false ∧ n = .int .u64 (N : Int) ∧ i = .int .i64 (j : Int) ∧ j ≤ 2 ∧ (j = 0 → N = 0) ∧ (j ≤ 1 → N ≤ 15) ∧ Hid (hexN (l.take j) = some N) ∧ Hid (wr = W1)) (fun _ _ i _ => 2 - (intOf i).toNat)
 case atStart => exact ⟨0, 0, rfl, rfl, rfl, by omega, by simp, by omega, rfl, rfl⟩
 case round =>
  obtain ⟨j, N, rfl, rfl, rfl, hj, hN0, hN1, HH, HW⟩ := hrel
  obtain rfl := HW.out
  by_cases hlt : j < 2
  ·obtain ⟨b1, o1, hA1, hcc⟩ := bytes_addr HBY.out (by omega)
   injection hA1 with hA1
   injection hA1 with e1 e2 _
   subst e1 e2
   obtain ⟨u, hu⟩ : ∃ u, l[j]? = some u := ⟨_, List.getElem?_eq_getElem (by have := HLL.out; omega)⟩
   have hcu := hcc j u hu
   rw [Nat.zero_add] at hcu
   have hul : u.toNat < 256 := u.toNat_lt
   have HNX := Lib.hid (hexN_next hu HH.out)
   have HLO := Lib.hid (fun X => lower_is u X)
   have hdl := dig_lo ⟨u.toNat, hul⟩
   have hll := lo_lt ⟨u.toNat, hul⟩
   have h127 := lo_95 ⟨u.toNat, hul⟩
   simp only at hdl hll h127
   have HCUT := Lib.hid (fun h => hexN_cut (l := l) (j := j) h)
   clear hcc hu
   have hN15 := hN1 (by omega)
   have hjj : (j : Int) < 2 := by omega
   obtain ⟨n, hn⟩ : ∃ n, u.toNat = n := ⟨_, rfl⟩
   rw [hn] at hcu hul HNX HLO hdl hll h127
   obtain ⟨lo, hlo⟩ : ∃ lo, n ||| 32 = lo := ⟨_, rfl⟩
   rw [hlo] at HLO hdl hll h127
   have hge : ¬ (1152921504606846976 : Int) ≤ (N : Int) := by omega
   have HN0 := Lib.hid hN0
   have H127 := Lib.hid h127
   have HB15 := Lib.hid hN15
   clear hn hlo hN0 hN1 h127 hN15
   generalize hM : (N : Int) = M at *
   have HM := Lib.hid hM
   have hM0 : 0 ≤ M := by omega
   have hM15 : M ≤ 15 := by have := HB15.out; omega
   clear hM
   by_cases h1 : 48 ≤ n ∧ n ≤ 57
   ·rw [if_pos h1] at hdl
    rw [hdl] at HNX
    obtain ⟨g1, g2⟩ := h1
    have g1i : (48 : Int) ≤ (n : Int) := by omega
    have g2b : decide ((n : Int) ≤ 57) = true := by simp; omega
    have g2i : (n : Int) ≤ 57 := by omega
    have g3 : ¬ (16 : Int) ≤ (n : Int) - 48 := by omega
    have g4 : ¬ (16 : Int) ≤ ((n : Int) - 48) := by omega
    have g5 : ¬ (255 : Int) < M * 16 + ((n : Int) - 48) := by omega
    have g6 : ¬ M * 16 + ((n : Int) - 48) < M * 16 := by omega
    clear hdl
    go_wp2_with fail
    go_roundw
    case rel => exact ⟨j + 1, 16 * N + (n - 48), rfl, by have := HM.out; congr 1; omega, by go_num, by omega, by omega, fun h => by have := HN0.out (by omega); omega, by have := HNX.out; exact this, by first | rfl | exact trivial⟩
    case measure => simp [intOf]; omega
   ·rw [if_neg h1] at hdl
    have hq : (¬ (48 : Int) ≤ (n : Int)) ∨ ((48 : Int) ≤ (n : Int) ∧ ¬ (n : Int) ≤ 57) := by omega
    by_cases h2 : 97 ≤ lo ∧ lo ≤ 102
    ·rw [if_pos h2] at hdl
     rw [hdl] at HNX
     obtain ⟨g1, g2⟩ := h2
     have HG12 := Lib.hid (And.intro g1 g2)
     have g1i : (97 : Int) ≤ (lo : Int) := by omega
     have g2b : decide ((lo : Int) ≤ 122) = true := by simp; omega
     have g2i : (lo : Int) ≤ 122 := by omega
     have g3 : ¬ (16 : Int) ≤ (lo : Int) - 97 + 10 := by omega
     have g5 : ¬ (255 : Int) < M * 16 + ((lo : Int) - 97 + 10) := by omega
     have g6 : ¬ M * 16 + ((lo : Int) - 97 + 10) < M * 16 := by omega
     have h95 : ¬ (n : Int) = 95 := fun h => by have := H127.out (by omega); omega
     have h95b : ((n : Int) == 95) = false := by simpa using h95
     obtain ⟨z, hz⟩ : ∃ z : Int, (lo : Int) = z := ⟨_, rfl⟩
     rw [hz] at HLO g1i g2b g2i g3 g5 g6
     have hz0 : z < 256 := by omega
     have HZ := Lib.hid hz
     clear hdl h1 g1 g2 hz hll H127
     rcases hq with q1 | ⟨q1, q2⟩
     all_goals
      go_wp2_with (go_at_call 300; refine (HLO.out _).mono ?_; rintro e w1 ⟨rfl, rfl⟩)
      all_goals
       go_roundw
       case rel => exact ⟨j + 1, 16 * N + (lo - 87), rfl, by have := HM.out; have := HG12.out; have := HZ.out; congr 1; omega, by go_num, by omega, by omega, fun h => by have := HN0.out (by omega); have := HG12.out; omega, by have := HNX.out; exact this, by first | rfl | exact trivial⟩
       case measure => simp [intOf]; omega
    ·rw [if_neg h2] at hdl
     rw [hdl] at HNX
     have hRN : R = none := by rw [← HR.out]; exact HCUT.out HNX.out
     subst hRN
     have hq2 : (lo : Int) < 97 ∨ ((97 : Int) ≤ (lo : Int) ∧ (122 : Int) < (lo : Int)) ∨ ((103 : Int) ≤ (lo : Int) ∧ (lo : Int) ≤ 122) := by omega
     clear hdl h1 h2
     have hq2 : (¬ (97 : Int) ≤ (lo : Int)) ∨ ((97 : Int) ≤ (lo : Int) ∧ (122 : Int) < (lo : Int)) ∨ ((103 : Int) ≤ (lo : Int) ∧ (lo : Int) ≤ 122) := by omega
     rcases hq2 with p1 | ⟨p1, p2⟩ | ⟨p1, p2⟩
     ·have h95 : ¬ (n : Int) = 95 := fun h => by have := H127.out (by omega); omega
      have h95b : ((n : Int) == 95) = false := by simpa using h95
      obtain ⟨z, hz⟩ : ∃ z : Int, (lo : Int) = z := ⟨_, rfl⟩
      rw [hz] at HLO p1
      clear hz hll H127
      rcases hq with q1 | ⟨q1, q2⟩
      all_goals
       go_wp2_with (go_at_call 300; refine (HLO.out _).mono ?_; rintro e w1 ⟨rfl, rfl⟩)
       all_goals
        go_ret2
        exact ⟨⟨fun N' h => (by cases h), fun _ => rfl⟩, HK1.out⟩
     ·have p3 : ¬ (lo : Int) ≤ 122 := by omega
      have p3b : decide ((lo : Int) ≤ 122) = false := by simp; omega
      by_cases h9 : n = 95
      ·subst h9
       have q1 : (48 : Int) ≤ ((95 : Nat) : Int) := by omega
       have q2 : ¬ ((95 : Nat) : Int) ≤ 57 := by omega
       rw [show ((95 : Nat) : Int) = 95 from rfl] at hcu HLO
       clear q1 q2 hq
       go_wp2_with (go_at_call 300; refine (HLO.out _).mono ?_; rintro e w1 ⟨rfl, rfl⟩)
       all_goals
        go_ret2
        exact ⟨⟨fun N' h => (by cases h), fun _ => rfl⟩, HK1.out⟩
      ·have h95 : ¬ (n : Int) = 95 := by omega
       have h95b : ((n : Int) == 95) = false := by simpa using h95
       clear h9
       rcases hq with q1 | ⟨q1, q2⟩
       all_goals
        go_wp2_with (go_at_call 300; refine (HLO.out _).mono ?_; rintro e w1 ⟨rfl, rfl⟩)
        all_goals
         go_ret2
         exact ⟨⟨fun N' h => (by cases h), fun _ => rfl⟩, HK1.out⟩
     ·have p0 : (97 : Int) ≤ (lo : Int) := by omega
      have p3b : decide ((lo : Int) ≤ 122) = true := by simp; omega
      have h95 : ¬ (n : Int) = 95 := fun h => by have := H127.out (by omega); omega
      have h95b : ((n : Int) == 95) = false := by simpa using h95
      have p4 : (16 : Int) ≤ (lo : Int) - 97 + 10 := by omega
      rcases hq with q1 | ⟨q1, q2⟩
      all_goals
       go_wp2_with (go_at_call 300; refine (HLO.out _).mono ?_; rintro e w1 ⟨rfl, rfl⟩)
       all_goals
        go_ret2
        exact ⟨⟨fun N' h => (by cases h), fun _ => rfl⟩, HK1.out⟩
  ·obtain rfl : j = 2 := by omega
   have hR2 : R = some N := by
    have h9 := HH.out
    rw [List.take_of_length_le (by have := HLL.out; omega)] at h9
    rw [← HR.out, h9]
   subst hR2
   go_wp2_with fail
   go_ret2
   exact ⟨⟨fun N' h => by injection h with h; subst h; rfl, fun h => by cases h⟩, HK1.out⟩

end Go.Proofs.YtbfebljahjmjfaaGreatDoor
/- filter: strconv.ParseUint of two digits; walked. -/
namespace Go.Proofs.YtbfebljahjmjfaaGreatDoor
open Go.RowKit Go.Shelf
set_option linter.unusedVariables false
set_option linter.unusedSimpArgs false
set_option maxRecDepth 100000

def pu_ren : Go.Shelf.Ren := ⟨fun | 21 => 302 | 25 => 324 | n => n, fun | 0 => 0 | 3 => 3 | 4 => 4 | 5 => 5 | 9 => 9 | 24 => 225 | 37 => 37 | 39 => 322 | 44 => 344 | 47 => 359 | 67 => 242 | n => n, fun | 0 => 3 | n => n⟩

theorem pu_lays : LaysPu.n21 Tryz.prog pu_ren where
 mixed := by kernel_rfl
 f21 := Tryz.func302.trans (congrArg some (by kernel_rfl))
 f25 := Tryz.func324.trans (congrArg some (by kernel_rfl))
 t0 := Tryz.underlying0
 a0 := Tryz.isAgg0
 z0 := Tryz.sizeOf0
 v0 := Tryz.zeroValue0
 i0 := by kernel_rfl
 t3 := Tryz.underlying3
 a3 := Tryz.isAgg3
 z3 := Tryz.sizeOf3
 v3 := Tryz.zeroValue3
 i3 := by kernel_rfl
 t4 := Tryz.underlying4
 a4 := Tryz.isAgg4
 z4 := Tryz.sizeOf4
 v4 := Tryz.zeroValue4
 i4 := by kernel_rfl
 t5 := Tryz.underlying5
 a5 := Tryz.isAgg5
 z5 := Tryz.sizeOf5
 v5 := Tryz.zeroValue5
 i5 := by kernel_rfl
 t9 := Tryz.underlying9
 a9 := Tryz.isAgg9
 z9 := Tryz.sizeOf9
 v9 := Tryz.zeroValue9
 i9 := by kernel_rfl
 t24 := Tryz.underlying225
 a24 := Tryz.isAgg225
 z24 := Tryz.sizeOf225
 v24 := Tryz.zeroValue225
 i24 := by kernel_rfl
 t37 := Tryz.underlying37
 a37 := Tryz.isAgg37
 z37 := Tryz.sizeOf37
 v37 := Tryz.zeroValue37
 i37 := by kernel_rfl
 t39 := Tryz.underlying322
 a39 := Tryz.isAgg322
 z39 := Tryz.sizeOf322
 v39 := Tryz.zeroValue322
 i39 := by kernel_rfl
 t44 := Tryz.underlying344
 a44 := Tryz.isAgg344
 z44 := Tryz.sizeOf344
 v44 := Tryz.zeroValue344
 i44 := by kernel_rfl
 t47 := Tryz.underlying359
 a47 := Tryz.isAgg359
 z47 := Tryz.sizeOf359
 v47 := Tryz.zeroValue359
 i47 := by kernel_rfl
 t67 := Tryz.underlying242
 a67 := Tryz.isAgg242
 z67 := Tryz.sizeOf242
 v67 := Tryz.zeroValue242
 i67 := by kernel_rfl
 g0 := by kernel_rfl
 m0 := by kernel_rfl

/-- The package's variable ErrSyntax is there. -/
def SynAt (w : World) : Prop := ∃ ev, w.cell? ⟨3, 0, none⟩ = some ev ∧ (ev = .nilIface ∨ ∃ te pe, ev = .iface te pe)
theorem SynAt.keep {w w' : World} {bs : List Nat} (h : SynAt w) (hk : Keeps bs w w') (hb : 3 ∉ bs) : SynAt w' := by
 obtain ⟨ev, h1, h2⟩ := h
 exact ⟨ev, (hk.cell (lt_of_cell h1) (by simpa using hb)).trans h1, h2⟩
theorem SynAt.lt {w : World} (h : SynAt w) : 3 < w.heap.size := by
 obtain ⟨ev, h1, _⟩ := h
 exact lt_of_cell h1

theorem toerror_is (fn s : List UInt8) (x y : Int) (w : World) (hs : s.length ≤ 1000000) (h : SynAt w) :
  Calls Tryz.prog 265 #[.string ⟨fn.toArray⟩, .string ⟨s.toArray⟩, .int .i64 x, .int .i64 y, .iface 320 (.int .i64 2)] w fun e w' => ∃ N, e = .returned (.iface 322 (.pointer (some ⟨N, 0, none⟩))) ∧ Keeps [] w w' := by
 obtain ⟨ev, h1, h2⟩ := h
 have HS := Lib.hid (AnyPu.strconv_syntaxError pu_lays ⟨fn.toArray⟩ ⟨s.toArray⟩ ev w (by show s.length ≤ _; omega) h1 h2)
 have heq : ∀ W, (binOp .eql 225 (.iface 320 (.int .i64 2)) (.iface 320 (.int .i64 2))).run Tryz.prog W = .ok (.bool true) W := fun W => Lib.run_eql_iface_int W 2 2 Tryz.underlying225 (by kernel_rfl) Tryz.underlying320
 clear h1 h2
 go_enter Tryz.func265, Tryz.ntmps265
 go_wp2_with fail
 refine HS.out.mono ?_
 rintro e w1 ⟨N, rfl, _, _, hb⟩
 have HB := Lib.hid hb
 clear hb
 go_wp2_with fail
 go_ret
 exact ⟨N, rfl, Keeps.of_below HB.out⟩

/-- What a text of two bytes is read as. -/
def PuE (R : Option Nat) (e : Ending) : Prop := (∀ N, R = some N → e = .returned (.tuple #[.int .u64 (N : Int), .nilIface])) ∧ (R = none → ∃ x t v, e = .returned (.tuple #[.int .u64 x, .iface t v]))
theorem scpu_is (l : List UInt8) (w : World) (hl : l.length = 2) (h : SynAt w) :
  Calls Tryz.prog 206 #[.string ⟨l.toArray⟩, .int .i64 16, .int .i64 8] w fun e w' => PuE (hexN l) e ∧ Keeps [] w w' := by
 have HI := Lib.hid (ipu_is l w hl)
 have HT := Lib.hid (fun X (hk : Keeps [] w X) => toerror_is [80, 97, 114, 115, 101, 85, 105, 110, 116] l 16 8 X (by omega) (h.keep hk (by simp)))
 obtain ⟨R, hR⟩ : ∃ R, hexN l = R := ⟨_, rfl⟩
 rw [hR] at HI ⊢
 have HN := Lib.hid (fun (W : World) (t : TypeId) (v : Value) => (show True from trivial))
 clear hl hR h
 go_enter Tryz.func206, Tryz.ntmps206
 go_wp2_with fail
 refine HI.out.mono ?_
 rintro e w1 ⟨⟨hp1, hp2⟩, hk⟩
 have HK := Lib.hid hk
 clear hk
 cases R with
 | some N =>
  obtain rfl := hp1 N rfl
  clear hp1 hp2
  go_wp2_with fail
  go_ret2
  exact ⟨⟨fun N' h => by injection h with h; subst h; rfl, fun h => by cases h⟩, HK.out⟩
 | none =>
  obtain rfl := hp2 rfl
  clear hp1 hp2
  go_wp2_with fail
  refine (HT.out _ HK.out).mono ?_
  rintro e w2 ⟨N, rfl, hk2⟩
  have HK2 := Lib.hid (HK.out.trans' hk2)
  clear hk2
  go_wp2_with fail
  go_ret2
  exact ⟨⟨fun N' h => (by cases h), fun _ => ⟨_, _, _, rfl⟩⟩, HK2.out⟩

end Go.Proofs.YtbfebljahjmjfaaGreatDoor
/- filter: what the six listed package-level variables give; a world that meets the condition. -/
namespace Go.Proofs.YtbfebljahjmjfaaGreatDoor
open Go.ChangeShapes Go.WideShapes Go.ChangeAt Go.WideMaps Go.WideElems Go.RowKit
set_option linter.unusedVariables false
set_option maxRecDepth 100000

/-- An array of texts that reads as a list of texts holds them, cell for cell. -/
theorem cells_of_txts {H : Type} {enc : TypeId × Value → H} {P : Program} {w : World} {base : Nat} {sp : Nat → Bool} {held : Bool} {fuel : Nat} {t e : TypeId} {n : Nat} {cs : List Value} {zs : List Txt} {p : List MemPlace}
  (ht : P.underlying t = some (.array n e)) (he : P.underlying e = some .string) (hce : P.cellsOf e = 1) (hct : P.cellsOf t = n)
  (h : DataW.trod enc P w base sp held fuel t cs = some (.agg (zs.map fun z => .lit (.string z)), p)) : cs = zs.map tv := by
 cases fuel with
 | zero => simp [DataW.trod] at h
 | succ fuel =>
  simp only [DataW.trod, ht, hce, hct, Nat.mul_one] at h
  split at h
  ·rename_i hl
   obtain ⟨xs, hm, hx⟩ := Option.map_eq_some_iff.1 h
   have hxs : xs.map (·.1) = zs.map fun z => (DataW.lit (.string z) : DataW H) := by
    have := congrArg Prod.fst hx
    simpa using this
   have hxl : xs.length = n := by simpa using Lib.mapM_length hm
   have hzl : zs.length = n := by
    have := congrArg List.length hxs
    simp at this
    omega
   apply List.ext_getElem?
   intro i
   by_cases hi : i < n
   ·obtain ⟨b, hb, hf⟩ := Lib.mapM_at hm i i (by simp [hi])
    obtain ⟨s, hc, rfl, _⟩ := DataW.trod_string he hf
    have h1 : cs[i]? = some (.string s) := by
     have := congrArg (·[0]?) hc
     simpa [List.getElem?_take, List.getElem?_drop] using this
    have h2 : (xs.map (·.1))[i]? = some (DataW.lit (.string s.data.toList) : DataW H) := by simp [hb]
    rw [hxs] at h2
    simp only [List.getElem?_map, Option.map_eq_some_iff, DataW.lit.injEq, Lit.string.injEq] at h2
    obtain ⟨z', hz', hz2⟩ := h2
    rw [h1, List.getElem?_map, hz', hz2]
    obtain ⟨⟨_⟩⟩ := s
    rfl
   ·rw [List.getElem?_eq_none (by omega), List.getElem?_eq_none (by simp; omega)]
  ·cases h
theorem txts_of_head {P : Program} {W : World} {name : String} {zs : List Txt} {rest : List (String × DataW Unit)} {g : Nat} {t e : TypeId} {n : Nat}
  (hg : P.globalNamed name = some g) (hty : (P.globals[g]?).map (·.type) = some t) (ht : P.underlying t = some (.array n e)) (he : P.underlying e = some .string) (hce : P.cellsOf e = 1) (hct : P.cellsOf t = n)
  (h : laidMet P ((name, .agg (zs.map fun z => .lit (.string z))) :: rest) W) : W.var? P name = some (zs.map tv).toArray := by
 obtain ⟨ps, ⟨g', t', cs, fuel, p, q, hg', ht', hvar, hd, _, _⟩, _⟩ := h
 obtain rfl := Option.some.inj (hg.symm.trans hg')
 obtain rfl := Option.some.inj (hty.symm.trans ht')
 rw [hvar, ← cells_of_txts ht he hce hct hd]
theorem star8 : "*" ++ "errors.errorString" = "*errors.errorString" := by decide
theorem rowErr8 (u : TypeId) (h : Tryz.prog.typeName? 3 u = some "*errors.errorString") : u = 360 :=
 typeName_ptr_named (nm := "errors.errorString") (by rw [star8]; kernel_rfl) (by kernel_rfl) (by decide) u (by rw [star8]; exact h)
end Go.Proofs.YtbfebljahjmjfaaGreatDoor
/- ber: values as trees, and how they lie in memory. -/
namespace Go.Proofs.YtbfebljahjmjfaaGreatDoor
open Go.RowKit Go.Shelf
set_option linter.unusedVariables false
set_option linter.unusedSimpArgs false
set_option maxRecDepth 100000

/-- A value: its Class, Num, whether it is Cons, its Bytes, its Items. -/
inductive BV where
 | mk (c n : Nat) (k : Bool) (b : List UInt8) (l : List BV)

def BV.c : BV → Nat | .mk c _ _ _ _ => c
def BV.n : BV → Nat | .mk _ n _ _ _ => n
def BV.k : BV → Bool | .mk _ _ k _ _ => k
def BV.b : BV → List UInt8 | .mk _ _ _ b _ => b
def BV.l : BV → List BV | .mk _ _ _ _ l => l

/-- What stands in a value's own five cells. -/
structure BH where
 c : Nat
 n : Nat
 k : Bool
 A : Option Addr
 la : Nat
 ca : Nat
 B : Option Addr
 lb : Nat
 cb : Nat
def BH.list (h : BH) : List Value := [.int .u8 (h.c : Int), .int .u8 (h.n : Int), .bool h.k, .slice h.A h.la h.ca, .slice h.B h.lb h.cb]
def BH.val (h : BH) : Value := .agg #[.int .u8 (h.c : Int), .int .u8 (h.n : Int), .bool h.k, .slice h.A h.la h.ca, .slice h.B h.lb h.cb]

mutual
/-- Five cells, and what they point at, are a value. -/
def BerAt (w : World) : BV → BH → Prop
 | .mk c n k b l, h => h.c = c ∧ h.n = n ∧ h.k = k ∧ c < 256 ∧ n < 256 ∧ b.length = h.la ∧ BytesAt w (.slice h.A h.la h.ca) b ∧ l.length = h.lb ∧ h.lb ≤ h.cb ∧ h.cb ≤ 9223372036854775807 ∧ ItemsAt w h.B 0 l
/-- A row's values, from the i'th on. -/
def ItemsAt (w : World) (B : Option Addr) : Nat → List BV → Prop
 | _, [] => True
 | i, t :: r => (∃ b o h, B = some ⟨b, o, none⟩ ∧ (∀ j u, (BH.list h)[j]? = some u → w.cell? ⟨b, o + i * 5 + j, none⟩ = some u) ∧ BerAt w t h) ∧ ItemsAt w B (i + 1) r
end

mutual
theorem BerAt.grow {w w' : World} (hk : Keeps [] w w') : ∀ (t : BV) (h : BH), BerAt w t h → BerAt w' t h
 | .mk c n k b l, h, ⟨h1, h2, h3, h4, h5, h6, h7, h8, h9, h10, h11⟩ => ⟨h1, h2, h3, h4, h5, h6, h7.grow hk, h8, h9, h10, ItemsAt.grow hk h.B 0 l h11⟩
theorem ItemsAt.grow {w w' : World} (hk : Keeps [] w w') (B : Option Addr) : ∀ (i : Nat) (l : List BV), ItemsAt w B i l → ItemsAt w' B i l
 | _, [], _ => trivial
 | i, t :: r, ⟨⟨b, o, h, h1, h2, h3⟩, h4⟩ => ⟨⟨b, o, h, h1, fun j u hu => (hk.cell (lt_of_cell (h2 j u hu)) (by simp)).trans (h2 j u hu), BerAt.grow hk t h h3⟩, ItemsAt.grow hk B (i + 1) r h4⟩
end

theorem ItemsAt.at_ {w : World} {B : Option Addr} : ∀ {i : Nat} {l : List BV}, ItemsAt w B i l → ∀ (j : Nat) (t : BV), l[j]? = some t → ∃ b o h, B = some ⟨b, o, none⟩ ∧ (∀ q u, (BH.list h)[q]? = some u → w.cell? ⟨b, o + (i + j) * 5 + q, none⟩ = some u) ∧ BerAt w t h
 | _, [], _, j, t, h => by simp at h
 | i, x :: r, ⟨h1, h2⟩, 0, t, h => by
  simp at h
  subst h
  exact h1
 | i, x :: r, ⟨h1, h2⟩, j + 1, t, h => by
  have := ItemsAt.at_ h2 j t (by simpa using h)
  rwa [show i + 1 + j = i + (j + 1) by omega] at this

/-- Induction over a tree. -/
theorem BV.ind {P : BV → Prop} (h : ∀ c n k b l, (∀ t ∈ l, P t) → P (.mk c n k b l)) : ∀ t, P t := by
 intro t
 induction t using BV.rec (motive_2 := fun l => ∀ t ∈ l, P t) with
 | mk c n k b l ih => exact h c n k b l ih
 | nil => rename_i ht; cases ht
 | cons x r h1 h2 =>
  rename_i t ht
  rcases List.mem_cons.1 ht with ht | ht
  ·rw [ht]; exact h1
  ·exact h2 t ht

theorem five_at {w : World} {b o : Nat} {h : BH} (hc : ∀ q u, (BH.list h)[q]? = some u → w.cell? ⟨b, o + q, none⟩ = some u) :
  w.cell? ⟨b, o, none⟩ = some (.int .u8 (h.c : Int)) ∧ w.cell? ⟨b, o + 1, none⟩ = some (.int .u8 (h.n : Int)) ∧ w.cell? ⟨b, o + 2, none⟩ = some (.bool h.k) ∧ w.cell? ⟨b, o + 3, none⟩ = some (.slice h.A h.la h.ca) ∧ w.cell? ⟨b, o + 4, none⟩ = some (.slice h.B h.lb h.cb) :=
 ⟨hc 0 _ rfl, hc 1 _ rfl, hc 2 _ rfl, hc 3 _ rfl, hc 4 _ rfl⟩

/-- A value without Items. -/
theorem BerAt.flat {w : World} {c n : Nat} {k : Bool} {A : Option Addr} {la ca : Nat} {xs : List UInt8} (hc : c < 256) (hn : n < 256) (hl : xs.length = la) (hb : BytesAt w (.slice A la ca) xs) : BerAt w (.mk c n k xs []) ⟨c, n, k, A, la, ca, none, 0, 0⟩ :=
 ⟨rfl, rfl, rfl, hc, hn, hl, hb, rfl, Nat.le_refl _, Nat.zero_le _, trivial⟩

/-- mayStand, as a condition. -/
def stands : BV → Bool
 | .mk c n k b l => decide (c ≤ 3) && (decide (n < 31) && decide ((if k then b.length else l.length) = 0))

end Go.Proofs.YtbfebljahjmjfaaGreatDoor
/- ber: what is too deep; what does not fit; why a call gave up. -/
namespace Go.Proofs.YtbfebljahjmjfaaGreatDoor
open Go.RowKit Go.Shelf
set_option linter.unusedVariables false
set_option linter.unusedSimpArgs false
set_option maxRecDepth 100000

mutual
/-- Is something in a value too deep? -/
def deepB : Nat → BV → Bool
 | d, .mk _ _ _ _ l => decide (16 < d) || deepL (d + 1) l
def deepL : Nat → List BV → Bool
 | _, [] => false
 | d, t :: r => deepB d t || deepL d r
end
theorem deepL_snoc (d : Nat) : ∀ (l : List BV) (t : BV), deepL d (l ++ [t]) = (deepL d l || deepB d t)
 | [], t => by simp [deepL]
 | x :: r, t => by simp [deepL, deepL_snoc d r t, Bool.or_assoc]
end Go.Proofs.YtbfebljahjmjfaaGreatDoor
/- Rows of bytes: few, joined. -/
namespace Go.Proofs.YtbfebljahjmjfaaGreatDoor
open Go.RowKit
set_option linter.unusedVariables false

structure Part where
 A : Option Addr
 c : Nat
 bs : List UInt8

structure PartsAt (w : World) (A : Option Addr) (len : Nat) (l : List Part) : Prop where
 len : l.length = len
 at_ : ∀ i x, l[i]? = some x → ∃ b o, A = some ⟨b, o, none⟩ ∧ w.cell? ⟨b, o + i, none⟩ = some (.slice x.A x.bs.length x.c) ∧ BytesAt w (.slice x.A x.bs.length x.c) x.bs ∧ x.bs.length ≤ 9223372036854775807

theorem PartsAt.keep {w w' : World} {A : Option Addr} {len : Nat} {l : List Part} (h : PartsAt w A len l) (hk : Keeps [] w w') : PartsAt w' A len l := by
 refine ⟨h.len, fun i x hx => ?_⟩
 obtain ⟨b, o, h1, h2, h3, h4⟩ := h.at_ i x hx
 exact ⟨b, o, h1, (hk.cell (lt_of_cell h2) (by simp)).trans h2, h3.grow hk, h4⟩

end Go.Proofs.YtbfebljahjmjfaaGreatDoor
/- ber: a length's bytes. -/
namespace Go.Proofs.YtbfebljahjmjfaaGreatDoor
open Go.RowKit Go.Shelf
set_option linter.unusedVariables false
set_option linter.unusedSimpArgs false
set_option maxRecDepth 100000

/-- A length's bytes. -/
def lenB (n : Nat) : List UInt8 :=
 if n < 128 then [n8 (n : Int)]
 else n8 ((128 + (if (fewB (n : Int)).take 1 == [0] then (fewB (n : Int)).drop 1 else fewB (n : Int)).length : Nat) : Int) :: (if (fewB (n : Int)).take 1 == [0] then (fewB (n : Int)).drop 1 else fewB (n : Int))
theorem lenB_len (n : Nat) : 1 ≤ (lenB n).length ∧ (lenB n).length ≤ 9 := by
 have h := fewB_len (n : Int)
 unfold lenB
 split
 ·simp
 ·split <;> simp <;> omega

end Go.Proofs.YtbfebljahjmjfaaGreatDoor
/- ber: bytes taken off. -/
namespace Go.Proofs.YtbfebljahjmjfaaGreatDoor
open Go.RowKit Go.Shelf
set_option linter.unusedVariables false
set_option linter.unusedSimpArgs false
set_option maxRecDepth 100000
attribute [local go_sem] Oper.semAt_some

/-- What is still to be read lies at a reader's head. -/
structure RestAt (w : World) (r : Nat) (xs : List UInt8) (A : Option Addr) (m c : Nat) : Prop where
 cell : w.cell? ⟨r, 0, none⟩ = some (.slice A m c)
 free : w.frozen? ⟨r, 0, none⟩ = false
 len : xs.length = m
 bytes : BytesAt w (.slice A m c) xs
 apart : ∀ a, A = some a → a.block ≠ r

end Go.Proofs.YtbfebljahjmjfaaGreatDoor
/- ber: a tag, a length read. -/
namespace Go.Proofs.YtbfebljahjmjfaaGreatDoor
open Go.RowKit Go.Shelf
set_option linter.unusedVariables false
set_option linter.unusedSimpArgs false
set_option maxRecDepth 100000

theorem BytesAt.keep0 {w w' : World} {v : Value} {xs : List UInt8} {bs : List Nat} (h : BytesAt w v xs) (hk : Keeps bs w w') (hb : 0 < xs.length → ∀ b, v.ownBlock = some b → b ∉ bs) : BytesAt w' v xs := by
 obtain ⟨A, c, rfl, h1, h2, h3⟩ := h
 refine ⟨A, c, rfl, h1, h2, fun hp => ?_⟩
 obtain ⟨b, o, rfl, hc⟩ := h3 hp
 refine ⟨b, o, rfl, fun i u hu => ?_⟩
 have := hc i u hu
 rw [hk.cell (lt_of_cell this) (hb hp b rfl)]
 exact this
theorem RestAt.keep {w w' : World} {r m c : Nat} {xs : List UInt8} {A : Option Addr} {bs : List Nat} (h : RestAt w r xs A m c) (hk : Keeps bs w w') (hr : r ∉ bs) (hb : 0 < xs.length → ∀ b, (Value.slice A m c).ownBlock = some b → b ∉ bs) : RestAt w' r xs A m c := by
 have hrl : r < w.heap.size := lt_of_cell h.cell
 refine ⟨(hk.cell (p := ⟨r, 0, none⟩) hrl hr).trans h.cell, ?_, h.len, h.bytes.keep0 hk hb, h.apart⟩
 have e : w'.frozen? ⟨r, 0, none⟩ = w.frozen? ⟨r, 0, none⟩ := by
  unfold World.frozen?
  rw [hk.block r hrl hr]
 rw [e]
 exact h.free
theorem RestAt.lt {w : World} {r m c : Nat} {xs : List UInt8} {A : Option Addr} (h : RestAt w r xs A m c) (hn : 0 < xs.length) : ∀ b, (Value.slice A m c).ownBlock = some b → b < w.heap.size := fun b hb => h.bytes.lt hn b hb

end Go.Proofs.YtbfebljahjmjfaaGreatDoor
