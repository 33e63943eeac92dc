/- Texts of one proof, laid together: N24. -/
import Derived.Test.YtmgkejgmkfeccaaDoorM12
import Derived.Test.YtmgkejgmkfeccaaDoorM08
/- dn: two digits to the base 16, read by strconv; walked. -/
namespace Go.Proofs.YtmgkejgmkfeccaaDoor
open Go.RowKit Go.Shelf
set_option linter.unusedVariables false
set_option linter.unusedSimpArgs false
set_option maxRecDepth 100000

theorem or_32 : ∀ n : Fin 256, bits BinOp.or IntKind.u8 (n.val : Int) 32 = ((n.val ||| 32 : Nat) : Int) := by decide +kernel
theorem dig_lo : ∀ n : Fin 256, dig1 n.val = if 48 ≤ n.val ∧ n.val ≤ 57 then some (n.val - 48) else if 97 ≤ (n.val ||| 32) ∧ (n.val ||| 32) ≤ 102 then some ((n.val ||| 32) - 87) else none := by decide +kernel
theorem lo_95 : ∀ n : Fin 256, n.val = 95 → (n.val ||| 32) = 127 := by decide +kernel
theorem lo_lt : ∀ n : Fin 256, (n.val ||| 32) < 256 := by decide +kernel

theorem lower_is (c : UInt8) (w : World) : Calls Tryd.prog 122 #[.int .u8 (c.toNat : Int)] w fun e w' => e = .returned (.int .u8 ((c.toNat ||| 32 : Nat) : Int)) ∧ w = w' := by
  have h := or_32 ⟨c.toNat, c.toNat_lt⟩
  simp only at h
  generalize ((c.toNat ||| 32 : Nat) : Int) = z at *
  go_enter Tryd.func122, Tryd.ntmps122
  go_wp2_with fail
  go_ret
  exact ⟨rfl, rfl⟩

/-- The number that digits to the base 16 are. -/
def hexN (l : List UInt8) : Option Nat := l.foldl (fun acc y => acc.bind fun N => (dig1 y.toNat).map fun k => 16 * N + k) (some 0)
theorem hexN_next {l : List UInt8} {j N : Nat} {u : UInt8} (hu : l[j]? = some u) (h : hexN (l.take j) = some N) : hexN (l.take (j + 1)) = (dig1 u.toNat).map fun k => 16 * N + k := by
  unfold hexN at *
  rw [List.take_add_one, hu, List.foldl_append, h]
  rfl
theorem hexN_bad : ∀ (r : List UInt8), r.foldl (fun acc y => acc.bind fun N => (dig1 y.toNat).map fun k => 16 * N + k) (none : Option Nat) = none
  | [] => rfl
  | y :: r => by simp only [List.foldl_cons, Option.bind_none]; exact hexN_bad r
theorem hexN_cut {l : List UInt8} {j : Nat} (h : hexN (l.take (j + 1)) = none) : hexN l = none := by
  have h9 := List.take_append_drop (j + 1) l
  unfold hexN at *
  rw [← h9, List.foldl_append, h]
  exact hexN_bad _
theorem dig_bound {n k : Nat} (h : dig1 n = some k) : k ≤ 15 := by
  unfold dig1 at h
  split at h
  · injection h with h; omega
  · split at h
    · injection h with h; omega
    · split at h
      · injection h with h; omega
      · cases h

abbrev puBad : Value := .tuple #[.int .u64 0, .iface 163 (.int .i64 2)]
/-- What a text of digits is read as. -/
def PuQ (R : Option Nat) (e : Ending) : Prop := (∀ N, R = some N → e = .returned (.tuple #[.int .u64 (N : Int), .nilIface])) ∧ (R = none → e = .returned puBad)
set_option maxHeartbeats 8000000 in
theorem ipu_is (l : List UInt8) (w : World) (hl : l.length = 2) :
    Calls Tryd.prog 103 #[.string ⟨l.toArray⟩, .int .i64 16, .int .i64 8] w fun e w' => PuQ (hexN l) e ∧ Keeps [] w w' := by
  obtain ⟨C, O, hcv, hcap, hrow⟩ := conv_row l (by omega)
  have hcv2 := hcv w
  have HBY : Hid (BytesAt (w.alloc (O w)).drew (.slice (some ⟨w.heap.size, 0, none⟩) l.length (C w)) l) := (hrow w).bytes (hcap w).1 (hcap w).2
  have HK1 : Hid (Keeps [] w (w.alloc (O w)).drew) := ((Keeps.refl [] w).alloc _).drew
  have HLL := Lib.hid hl
  have hem : l.isEmpty = false := by cases l with | nil => simp at hl | cons a b => rfl
  rw [hl] at HBY hcv2
  obtain ⟨R, hR⟩ : ∃ R, hexN l = R := ⟨_, rfl⟩
  have HR := Lib.hid hR
  rw [hR]
  clear hcv hcap hrow hl hR
  go_enter Tryd.func103, Tryd.ntmps103
  go_wp2_with fail
  generalize (w.alloc (O w)).drew = W1 at *
  generalize C w = cv at *
  clear hcv2
  go_loopw [12, 13, 101] (fun b n i wr => ∃ (j N : Nat), b = .bool false ∧ n = .int .u64 (N : Int) ∧ i = .int .i64 (j : Int) ∧ j ≤ 2 ∧ (j = 0 → N = 0) ∧ (j ≤ 1 → N ≤ 15) ∧ Hid (hexN (l.take j) = some N) ∧ Hid (wr = W1)) (fun _ _ i _ => 2 - (intOf i).toNat)
  case atStart => exact ⟨0, 0, rfl, rfl, rfl, by omega, by simp, by omega, rfl, rfl⟩
  case round =>
    obtain ⟨j, N, rfl, rfl, rfl, hj, hN0, hN1, HH, HW⟩ := hrel
    obtain rfl := HW.out
    by_cases hlt : j < 2
    · obtain ⟨b1, o1, hA1, hcc⟩ := bytes_addr HBY.out (by omega)
      injection hA1 with hA1
      injection hA1 with e1 e2 _
      subst e1 e2
      obtain ⟨u, hu⟩ : ∃ u, l[j]? = some u := ⟨_, List.getElem?_eq_getElem (by have := HLL.out; omega)⟩
      have hcu := hcc j u hu
      rw [Nat.zero_add] at hcu
      have hul : u.toNat < 256 := u.toNat_lt
      have HNX := Lib.hid (hexN_next hu HH.out)
      have HLO := Lib.hid (fun X => lower_is u X)
      have hdl := dig_lo ⟨u.toNat, hul⟩
      have hll := lo_lt ⟨u.toNat, hul⟩
      have h127 := lo_95 ⟨u.toNat, hul⟩
      simp only at hdl hll h127
      have HCUT := Lib.hid (fun h => hexN_cut (l := l) (j := j) h)
      clear hcc hu
      have hN15 := hN1 (by omega)
      have hjj : (j : Int) < 2 := by omega
      obtain ⟨n, hn⟩ : ∃ n, u.toNat = n := ⟨_, rfl⟩
      rw [hn] at hcu hul HNX HLO hdl hll h127
      obtain ⟨lo, hlo⟩ : ∃ lo, n ||| 32 = lo := ⟨_, rfl⟩
      rw [hlo] at HLO hdl hll h127
      have hge : ¬ (1152921504606846976 : Int) ≤ (N : Int) := by omega
      have HN0 := Lib.hid hN0
      have H127 := Lib.hid h127
      have HB15 := Lib.hid hN15
      clear hn hlo hN0 hN1 h127 hN15
      generalize hM : (N : Int) = M at *
      have HM := Lib.hid hM
      have hM0 : 0 ≤ M := by omega
      have hM15 : M ≤ 15 := by have := HB15.out; omega
      clear hM
      by_cases h1 : 48 ≤ n ∧ n ≤ 57
      · rw [if_pos h1] at hdl
        rw [hdl] at HNX
        obtain ⟨g1, g2⟩ := h1
        have g1i : (48 : Int) ≤ (n : Int) := by omega
        have g2b : decide ((n : Int) ≤ 57) = true := by simp; omega
        have g2i : (n : Int) ≤ 57 := by omega
        have g3 : ¬ (16 : Int) ≤ (n : Int) - 48 := by omega
        have g4 : ¬ (16 : Int) ≤ ((n : Int) - 48) := by omega
        have g5 : ¬ (255 : Int) < M * 16 + ((n : Int) - 48) := by omega
        have g6 : ¬ M * 16 + ((n : Int) - 48) < M * 16 := by omega
        clear hdl
        go_wp2_with fail
        go_roundw
        case rel => exact ⟨j + 1, 16 * N + (n - 48), rfl, by have := HM.out; congr 1; omega, by go_num, by omega, by omega, fun h => by have := HN0.out (by omega); omega, by have := HNX.out; exact this, by first | rfl | exact trivial⟩
        case measure => simp [intOf]; omega
      · rw [if_neg h1] at hdl
        have hq : (¬ (48 : Int) ≤ (n : Int)) ∨ ((48 : Int) ≤ (n : Int) ∧ ¬ (n : Int) ≤ 57) := by omega
        by_cases h2 : 97 ≤ lo ∧ lo ≤ 102
        · rw [if_pos h2] at hdl
          rw [hdl] at HNX
          obtain ⟨g1, g2⟩ := h2
          have HG12 := Lib.hid (And.intro g1 g2)
          have g1i : (97 : Int) ≤ (lo : Int) := by omega
          have g2b : decide ((lo : Int) ≤ 122) = true := by simp; omega
          have g2i : (lo : Int) ≤ 122 := by omega
          have g3 : ¬ (16 : Int) ≤ (lo : Int) - 97 + 10 := by omega
          have g5 : ¬ (255 : Int) < M * 16 + ((lo : Int) - 97 + 10) := by omega
          have g6 : ¬ M * 16 + ((lo : Int) - 97 + 10) < M * 16 := by omega
          have h95 : ¬ (n : Int) = 95 := fun h => by have := H127.out (by omega); omega
          have h95b : ((n : Int) == 95) = false := by simpa using h95
          obtain ⟨z, hz⟩ : ∃ z : Int, (lo : Int) = z := ⟨_, rfl⟩
          rw [hz] at HLO g1i g2b g2i g3 g5 g6
          have hz0 : z < 256 := by omega
          have HZ := Lib.hid hz
          clear hdl h1 g1 g2 hz hll H127
          rcases hq with q1 | ⟨q1, q2⟩
          all_goals
            go_wp2_with (go_at_call 122; refine (HLO.out _).mono ?_; rintro e w1 ⟨rfl, rfl⟩)
            all_goals
              go_roundw
              case rel => exact ⟨j + 1, 16 * N + (lo - 87), rfl, by have := HM.out; have := HG12.out; have := HZ.out; congr 1; omega, by go_num, by omega, by omega, fun h => by have := HN0.out (by omega); have := HG12.out; omega, by have := HNX.out; exact this, by first | rfl | exact trivial⟩
              case measure => simp [intOf]; omega
        · rw [if_neg h2] at hdl
          rw [hdl] at HNX
          have hRN : R = none := by rw [← HR.out]; exact HCUT.out HNX.out
          subst hRN
          have hq2 : (lo : Int) < 97 ∨ ((97 : Int) ≤ (lo : Int) ∧ (122 : Int) < (lo : Int)) ∨ ((103 : Int) ≤ (lo : Int) ∧ (lo : Int) ≤ 122) := by omega
          clear hdl h1 h2
          have hq2 : (¬ (97 : Int) ≤ (lo : Int)) ∨ ((97 : Int) ≤ (lo : Int) ∧ (122 : Int) < (lo : Int)) ∨ ((103 : Int) ≤ (lo : Int) ∧ (lo : Int) ≤ 122) := by omega
          rcases hq2 with p1 | ⟨p1, p2⟩ | ⟨p1, p2⟩
          · have h95 : ¬ (n : Int) = 95 := fun h => by have := H127.out (by omega); omega
            have h95b : ((n : Int) == 95) = false := by simpa using h95
            obtain ⟨z, hz⟩ : ∃ z : Int, (lo : Int) = z := ⟨_, rfl⟩
            rw [hz] at HLO p1
            clear hz hll H127
            rcases hq with q1 | ⟨q1, q2⟩
            all_goals
              go_wp2_with (go_at_call 122; refine (HLO.out _).mono ?_; rintro e w1 ⟨rfl, rfl⟩)
              all_goals
                go_ret2
                exact ⟨⟨fun N' h => (by cases h), fun _ => rfl⟩, HK1.out⟩
          · have p3 : ¬ (lo : Int) ≤ 122 := by omega
            have p3b : decide ((lo : Int) ≤ 122) = false := by simp; omega
            by_cases h9 : n = 95
            · subst h9
              have q1 : (48 : Int) ≤ ((95 : Nat) : Int) := by omega
              have q2 : ¬ ((95 : Nat) : Int) ≤ 57 := by omega
              rw [show ((95 : Nat) : Int) = 95 from rfl] at hcu HLO
              clear q1 q2 hq
              go_wp2_with (go_at_call 122; refine (HLO.out _).mono ?_; rintro e w1 ⟨rfl, rfl⟩)
              all_goals
                go_ret2
                exact ⟨⟨fun N' h => (by cases h), fun _ => rfl⟩, HK1.out⟩
            · have h95 : ¬ (n : Int) = 95 := by omega
              have h95b : ((n : Int) == 95) = false := by simpa using h95
              clear h9
              rcases hq with q1 | ⟨q1, q2⟩
              all_goals
                go_wp2_with (go_at_call 122; refine (HLO.out _).mono ?_; rintro e w1 ⟨rfl, rfl⟩)
                all_goals
                  go_ret2
                  exact ⟨⟨fun N' h => (by cases h), fun _ => rfl⟩, HK1.out⟩
          · have p0 : (97 : Int) ≤ (lo : Int) := by omega
            have p3b : decide ((lo : Int) ≤ 122) = true := by simp; omega
            have h95 : ¬ (n : Int) = 95 := fun h => by have := H127.out (by omega); omega
            have h95b : ((n : Int) == 95) = false := by simpa using h95
            have p4 : (16 : Int) ≤ (lo : Int) - 97 + 10 := by omega
            rcases hq with q1 | ⟨q1, q2⟩
            all_goals
              go_wp2_with (go_at_call 122; refine (HLO.out _).mono ?_; rintro e w1 ⟨rfl, rfl⟩)
              all_goals
                go_ret2
                exact ⟨⟨fun N' h => (by cases h), fun _ => rfl⟩, HK1.out⟩
    · obtain rfl : j = 2 := by omega
      have hR2 : R = some N := by
        have h9 := HH.out
        rw [List.take_of_length_le (by have := HLL.out; omega)] at h9
        rw [← HR.out, h9]
      subst hR2
      go_wp2_with fail
      go_ret2
      exact ⟨⟨fun N' h => by injection h with h; subst h; rfl, fun h => by cases h⟩, HK1.out⟩

end Go.Proofs.YtmgkejgmkfeccaaDoor
