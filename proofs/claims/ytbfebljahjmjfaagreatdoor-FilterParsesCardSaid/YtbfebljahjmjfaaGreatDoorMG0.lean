/- Texts of one proof, laid together: F67 F68 F75 F76 F77. -/
import Derived.Test.YtbfebljahjmjfaaGreatDoorMF3
import Derived.BigQuiet
import Derived.Test.YtbfebljahjmjfaaGreatDoorMF7
import Derived.Test.YtbfebljahjmjfaaGreatDoorMF4
/- filter: the document's digit; walked. -/
namespace Go.Proofs.YtbfebljahjmjfaaGreatDoor
open Go.RowKit Go.Shelf
set_option linter.unusedVariables false
set_option linter.unusedSimpArgs false
set_option maxRecDepth 100000

/-- A digit's number to the base 16; -1: it is none. -/
def digZ (c : UInt8) : Int := match dig1 c.toNat with | some k => (k : Int) | none => -1
theorem digZ_in (c : UInt8) : -1 ≤ digZ c ∧ digZ c ≤ 15 := by
  unfold digZ
  cases h : dig1 c.toNat with
  | none => exact ⟨by decide, by decide⟩
  | some k =>
    have := dig_bound h
    show -1 ≤ (k : Int) ∧ (k : Int) ≤ 15
    omega
theorem rdigit8_is (c : UInt8) (w : World) : Calls Tryz.prog 139 #[.int .u8 (c.toNat : Int)] w fun e w' => e = .returned (.int .i64 (digZ c)) ∧ w = w' := by
  have hc : c.toNat < 256 := c.toNat_lt
  obtain ⟨r, hr⟩ : ∃ r, digZ c = r := ⟨_, rfl⟩
  rw [hr]
  unfold digZ dig1 at hr
  generalize c.toNat = n at *
  obtain ⟨z, hz⟩ : ∃ z : Int, (n : Int) = z := ⟨_, rfl⟩
  have hz0 : 0 ≤ z := by omega
  have hz2 : z < 256 := by omega
  rw [hz]
  by_cases h1 : 48 ≤ n ∧ n ≤ 57
  · have HR : Hid (z - 48 = r) := by rw [if_pos h1] at hr; dsimp only at hr; show _ = _; omega
    have a1 : (48 : Int) ≤ z := by omega
    have a2 : z ≤ 57 := by omega
    clear hr hz h1 hc
    go_enter Tryz.func139, Tryz.ntmps139
    go_wp2_with fail
    go_ret
    exact ⟨by rw [← HR.out]; first | rfl | simp, rfl⟩
  · by_cases h2 : 97 ≤ n ∧ n ≤ 102
    · have HR : Hid (z - 87 = r) := by rw [if_neg h1, if_pos h2] at hr; dsimp only at hr; show _ = _; omega
      have a1 : (97 : Int) ≤ z := by omega
      have a2 : z ≤ 102 := by omega
      have a3 : ¬ z ≤ 57 := by omega
      have a4 : (48 : Int) ≤ z := by omega
      clear hr hz h1 h2 hc
      go_enter Tryz.func139, Tryz.ntmps139
      go_wp2_with fail
      go_ret
      exact ⟨by rw [← HR.out]; first | rfl | simp, rfl⟩
    · by_cases h3 : 65 ≤ n ∧ n ≤ 70
      · have HR : Hid (z - 55 = r) := by rw [if_neg h1, if_neg h2, if_pos h3] at hr; dsimp only at hr; show _ = _; omega
        have a1 : (65 : Int) ≤ z := by omega
        have a2 : z ≤ 70 := by omega
        have a3 : ¬ z ≤ 57 := by omega
        have a4 : (48 : Int) ≤ z := by omega
        have a5 : ¬ (97 : Int) ≤ z := by omega
        clear hr hz h1 h2 h3 hc
        go_enter Tryz.func139, Tryz.ntmps139
        go_wp2_with fail
        go_ret
        exact ⟨by rw [← HR.out]; first | rfl | simp, rfl⟩
      · have HR : Hid (-1 = r) := by rw [if_neg h1, if_neg h2, if_neg h3] at hr; exact hr
        have q1 : z < 48 ∨ 57 < z := by omega
        have q2 : z < 97 ∨ 102 < z := by omega
        have q3 : z < 65 ∨ 70 < z := by omega
        clear hr hz h1 h2 h3 hc
        rcases (by omega : z < 48 ∨ (57 < z ∧ z < 65) ∨ (70 < z ∧ z < 97) ∨ 102 < z) with h | ⟨h, h'⟩ | ⟨h, h'⟩ | h
        all_goals clear q1 q2 q3
        · have b1 : ¬ (48 : Int) ≤ z := by omega
          have b2 : ¬ (97 : Int) ≤ z := by omega
          have b3 : ¬ (65 : Int) ≤ z := by omega
          go_enter Tryz.func139, Tryz.ntmps139
          go_wp2_with fail
          go_ret
          exact ⟨by rw [← HR.out]; first | rfl | simp, rfl⟩
        · have b0 : (48 : Int) ≤ z := by omega
          have b1 : ¬ z ≤ 57 := by omega
          have b2 : ¬ (97 : Int) ≤ z := by omega
          have b3 : ¬ (65 : Int) ≤ z := by omega
          go_enter Tryz.func139, Tryz.ntmps139
          go_wp2_with fail
          go_ret
          exact ⟨by rw [← HR.out]; first | rfl | simp, rfl⟩
        · have b0 : (48 : Int) ≤ z := by omega
          have b1 : ¬ z ≤ 57 := by omega
          have b2 : ¬ (97 : Int) ≤ z := by omega
          have b3 : (65 : Int) ≤ z := by omega
          have b4 : ¬ z ≤ 70 := by omega
          go_enter Tryz.func139, Tryz.ntmps139
          go_wp2_with fail
          go_ret
          exact ⟨by rw [← HR.out]; first | rfl | simp, rfl⟩
        · have b0 : (48 : Int) ≤ z := by omega
          have b1 : ¬ z ≤ 57 := by omega
          have b2 : (97 : Int) ≤ z := by omega
          have b2' : ¬ z ≤ 102 := by omega
          have b3 : (65 : Int) ≤ z := by omega
          have b4 : ¬ z ≤ 70 := by omega
          go_enter Tryz.func139, Tryz.ntmps139
          go_wp2_with fail
          go_ret
          exact ⟨by rw [← HR.out]; first | rfl | simp, rfl⟩
end Go.Proofs.YtbfebljahjmjfaaGreatDoor
/- filter: the document's value; walked. -/
namespace Go.Proofs.YtbfebljahjmjfaaGreatDoor
open Go.RowKit Go.Shelf
set_option linter.unusedVariables false
set_option linter.unusedSimpArgs false
set_option maxRecDepth 100000

/-- What a round of the document's value finds. -/
structure VlS (S : Txt) (i j : Nat) (V wr : World) (A : Option Addr) (an cc : Nat) (acc : Txt) : Prop where
  inv : ∃ f, (S.drop j).length ≤ f ∧ valR (S.drop i).length (S.drop i) = (valR f (S.drop j)).map (fun p => (acc ++ p.1, p.2))
  len : acc.length = an
  few : an ≤ j
  jle : j ≤ S.length
  row : wr.ownsRow V.heap.size 5 1 (.slice A an cc) an (acc.map bv)
  keep : Keeps [] V wr
theorem VlS.more {S acc : Txt} {i j j2 an cc : Nat} {x : UInt8} {V wr w2 w3 : World} {A : Option Addr} {v : Value} (h : VlS S i j V wr A an cc acc) (hj : j < j2) (hj2 : j2 ≤ S.length) (hi : ∃ f, (S.drop j2).length ≤ f ∧ valR (S.drop i).length (S.drop i) = (valR f (S.drop j2)).map (fun p => ((acc ++ [x]) ++ p.1, p.2))) (hk : Keeps [] wr w2)
    (ho : w3.ownsRow V.heap.size 5 1 v (an + 1) (acc.map bv ++ [bv x])) (hg : (w2.alloc (.cells #[bv x] 5)).grownBy w3 (Value.slice A an cc).ownBlock) : ∃ VB vd, v = .slice VB (an + 1) vd ∧ VlS S i j2 V w3 VB (an + 1) vd (acc ++ [x]) := by
  obtain ⟨VB, vd, hv⟩ := own_slice ho
  subst hv
  have hrow2 : (w2.alloc (.cells #[bv x] 5)).ownsRow V.heap.size 5 1 (.slice A an cc) an (acc.map bv) := own_keep h.row (hk.alloc _) (fun b hb hm => by cases hm)
  have := h.few
  exact ⟨VB, vd, rfl, hi, by simp [h.len], by omega, hj2, by simpa using ho, keeps_own35 hrow2 (h.keep.trans' (hk.alloc _)) hg⟩
theorem VlS.stop {S acc : Txt} {i j an cc : Nat} {u : UInt8} {V wr : World} {A : Option Addr} (h : VlS S i j V wr A an cc acc) (hu : S[j]? = some u) (h4 : u = 41 ∨ u = 42) : valR (S.drop i).length (S.drop i) = some (acc, S.drop j) := by
  obtain ⟨f, h1, h2⟩ := h.inv
  obtain ⟨hj, rfl⟩ := List.getElem?_eq_some_iff.1 hu
  rw [h2, List.drop_eq_getElem_cons hj]
  rw [List.drop_eq_getElem_cons hj] at h1
  cases f with
  | zero => exact absurd h1 (by rw [List.length_cons]; omega)
  | succ f =>
    unfold valR
    rw [if_pos h4]
    simp
theorem VlS.out {S acc : Txt} {i j an cc : Nat} {V wr : World} {A : Option Addr} (h : VlS S i j V wr A an cc acc) (hj : j = S.length) : valR (S.drop i).length (S.drop i) = none := by
  obtain ⟨f, h1, h2⟩ := h.inv
  rw [h2, hj, List.drop_length]
  cases f <;> simp [valR]
theorem VlS.no {S acc : Txt} {i j an cc : Nat} {u : UInt8} {V wr : World} {A : Option Addr} (h : VlS S i j V wr A an cc acc) (hu : S[j]? = some u) (h4 : u = 40 ∨ u.toNat < 32 ∨ 126 < u.toNat) : valR (S.drop i).length (S.drop i) = none := by
  obtain ⟨f, h1, h2⟩ := h.inv
  obtain ⟨hj, rfl⟩ := List.getElem?_eq_some_iff.1 hu
  rw [h2, List.drop_eq_getElem_cons hj]
  rw [List.drop_eq_getElem_cons hj] at h1
  cases f with
  | zero => exact absurd h1 (by rw [List.length_cons]; omega)
  | succ f =>
    have h5 : ¬ (S[j] = 41 ∨ S[j] = 42) := by
      rintro (h5 | h5) <;> rw [h5] at h4 <;> revert h4 <;> decide
    unfold valR
    rw [if_neg h5, if_pos h4]
    rfl
theorem VlS.plain {S acc : Txt} {i j an cc : Nat} {u : UInt8} {V wr : World} {A : Option Addr} (h : VlS S i j V wr A an cc acc) (hu : S[j]? = some u) (h1 : ¬ (u = 41 ∨ u = 42)) (h2 : ¬ (u = 40 ∨ u.toNat < 32 ∨ 126 < u.toNat)) (h3 : u ≠ 92) : ∃ f, (S.drop (j + 1)).length ≤ f ∧ valR (S.drop i).length (S.drop i) = (valR f (S.drop (j + 1))).map (fun p => ((acc ++ [u]) ++ p.1, p.2)) := by
  obtain ⟨f, h5, h6⟩ := h.inv
  obtain ⟨hj, rfl⟩ := List.getElem?_eq_some_iff.1 hu
  rw [List.drop_eq_getElem_cons hj] at h5 h6
  cases f with
  | zero => exact absurd h5 (by simp only [List.length_cons]; omega)
  | succ f =>
    simp only [List.length_cons] at h5
    refine ⟨f, by omega, ?_⟩
    rw [h6]
    conv => lhs; unfold valR
    rw [if_neg h1, if_neg h2, if_neg h3]
    cases valR f (S.drop (j + 1)) <;> simp
theorem VlS.hex {S acc : Txt} {i j an cc : Nat} {a b : UInt8} {x y : Nat} {V wr : World} {A : Option Addr} (h : VlS S i j V wr A an cc acc) (hu : S[j]? = some 92) (ha : S[j + 1]? = some a) (hb : S[j + 2]? = some b) (hx : dig1 a.toNat = some x) (hy : dig1 b.toNat = some y) : ∃ f, (S.drop (j + 3)).length ≤ f ∧ valR (S.drop i).length (S.drop i) = (valR f (S.drop (j + 3))).map (fun p => ((acc ++ [UInt8.ofNat (16 * x + y)]) ++ p.1, p.2)) := by
  obtain ⟨f, h5, h6⟩ := h.inv
  obtain ⟨hj, h92⟩ := List.getElem?_eq_some_iff.1 hu
  obtain ⟨hj1, rfl⟩ := List.getElem?_eq_some_iff.1 ha
  obtain ⟨hj2, rfl⟩ := List.getElem?_eq_some_iff.1 hb
  rw [List.drop_eq_getElem_cons hj, h92, List.drop_eq_getElem_cons hj1, List.drop_eq_getElem_cons hj2] at h5 h6
  cases f with
  | zero => exact absurd h5 (by simp only [List.length_cons]; omega)
  | succ f =>
    simp only [List.length_cons] at h5
    refine ⟨f, (by show (S.drop (j + 2 + 1)).length ≤ f; omega), ?_⟩
    rw [h6]
    conv => lhs; unfold valR
    rw [if_neg (by decide), if_neg (by decide), if_pos rfl]
    dsimp only
    rw [hx, hy]
    dsimp only
    cases valR f (S.drop (j + 3)) <;> simp
theorem VlS.bad {S acc : Txt} {i j an cc : Nat} {V wr : World} {A : Option Addr} (h : VlS S i j V wr A an cc acc) (hu : S[j]? = some 92) (hb : S.length ≤ j + 2 ∨ ∃ a b, S[j + 1]? = some a ∧ S[j + 2]? = some b ∧ (dig1 a.toNat = none ∨ dig1 b.toNat = none)) : valR (S.drop i).length (S.drop i) = none := by
  obtain ⟨f, h5, h6⟩ := h.inv
  obtain ⟨hj, h92⟩ := List.getElem?_eq_some_iff.1 hu
  rw [List.drop_eq_getElem_cons hj, h92] at h5 h6
  cases f with
  | zero => exact absurd h5 (by simp only [List.length_cons]; omega)
  | succ f =>
    rw [h6]
    conv => lhs; unfold valR
    rw [if_neg (by decide), if_neg (by decide), if_pos rfl]
    rcases hb with hb | ⟨a, b, ha, hb, h9⟩
    · have hl : (S.drop (j + 1)).length < 2 := by simp; omega
      match hq : S.drop (j + 1), hl with
      | [], _ => rfl
      | [a], _ => rfl
    · obtain ⟨hj1, rfl⟩ := List.getElem?_eq_some_iff.1 ha
      obtain ⟨hj2, rfl⟩ := List.getElem?_eq_some_iff.1 hb
      rw [List.drop_eq_getElem_cons hj1, List.drop_eq_getElem_cons hj2]
      dsimp only
      rcases h9 with h9 | h9
      · rw [h9]; rfl
      · rw [h9]; cases dig1 S[j + 1].toNat <;> rfl
/-- How the document's value ends. -/
def RvlQ (S : Txt) (i : Nat) (w : World) (e : Ending) (w' : World) : Prop := (∀ v R, valR (S.drop i).length (S.drop i) = some (v, R) → e = .returned (.tuple #[tv v, .int .i64 ((S.length - R.length : Nat) : Int)])) ∧ (valR (S.drop i).length (S.drop i) = none → e = .returned (.tuple #[tv [], .int .i64 (-1)])) ∧ Keeps [] w w'
set_option maxHeartbeats 16000000 in
theorem rvalue8_is (S : Txt) (i : Nat) (w : World) (hS : S.length ≤ 1000000000) (hi : i ≤ S.length) :
    Calls Tryz.prog 85 #[tv S, .int .i64 (i : Int)] w fun e w' => RvlQ S i w e w' := by
  obtain ⟨iu, hiu, hzu0, hzu1, hzu2⟩ := info_parts u8_info
  have HDG := Lib.hid rdigit8_is
  obtain ⟨n, hn⟩ : ∃ n, S.length = n := ⟨_, rfl⟩
  have hsz : (⟨S.toArray⟩ : ByteArray).size = n := hn
  have HN := Lib.hid hn
  have HBAD : Hid (∀ X, Keeps [] w X → valR (S.drop i).length (S.drop i) = none → RvlQ S i w (.returned (.tuple #[tv [], .int .i64 (-1)])) X) := fun X hX h9 => ⟨fun v R h => (by rw [h9] at h; cases h), fun _ => rfl, hX⟩
  have H0 : Hid (VlS S i i w w none 0 0 []) := ⟨⟨(S.drop i).length, Nat.le_refl _, by cases valR (S.drop i).length (S.drop i) <;> simp⟩, rfl, Nat.zero_le _, hi, World.ownsRow_nil _ _ _ _, Keeps.refl _ _⟩
  rw [hn] at hS hi
  clear hn
  unfold tv at *
  go_enter Tryz.func85, Tryz.ntmps85
  go_wp2_with fail
  go_loopw [1, 6] (fun a o wr => ∃ (j an cc : Nat) (A : Option Addr) (acc : Txt), a = .int .i64 (j : Int) ∧ o = .slice A an cc ∧ j ≤ n ∧ Hid (VlS S i j w wr A an cc acc)) (fun a _ _ => n - (intOf a).toNat)
  case atStart => exact ⟨i, 0, 0, none, [], rfl, rfl, hi, H0.out⟩
  case round =>
    obtain ⟨j, an, cc, A, acc, rfl, rfl, hj, HV⟩ := hrel
    have han : an ≤ n := Nat.le_trans HV.out.few hj
    by_cases hlt : j < n
    · obtain ⟨u, hu⟩ : ∃ u, S[j]? = some u := ⟨_, List.getElem?_eq_getElem (by have := HN.out; omega)⟩
      have HU := Lib.hid hu
      have hat := str_at S j u hu
      have hul : u.toNat < 256 := u.toNat_lt
      have hji : (j : Int) < (n : Int) := by omega
      have hj0 : (0 : Int) ≤ (j : Int) := by omega
      clear hu
      by_cases hst : u = 41 ∨ u = 42
      · have HQ := Lib.hid (HV.out.stop HU.out hst)
        have hcb := conv_bytes (BytesAt.of_own (by have h9 := HV.out.row; rw [← HV.out.len] at h9; exact h9))
        rw [HV.out.len] at hcb
        have HR : Hid (RvlQ S i w (.returned (.tuple #[.string ⟨acc.toArray⟩, .int .i64 (j : Int)])) wr) := by
          refine ⟨fun v R h => ?_, fun h => (by rw [HQ.out] at h; cases h), HV.out.keep⟩
          rw [HQ.out] at h
          injection h with h
          injection h with h1 h2
          subst h1 h2
          have : S.length - (S.drop j).length = j := by have := HN.out; simp; omega
          rw [this]
          rfl
        have hnj : ¬ (n : Int) ≤ (j : Int) := by omega
        rcases hst with rfl | rfl
        all_goals
          have h4 : ((41 : UInt8).toNat : Int) = 41 := rfl
          have h42 : ((42 : UInt8).toNat : Int) = 42 := rfl
          go_wp2_with fail
          refine bodyPost_ret (results_tmp2 rfl _ _ _) rfl ?_
          exact HR.out
      · have h41 : ¬ (u.toNat : Int) = 41 := fun h => hst (.inl (UInt8.toNat_inj.1 (by show u.toNat = 41; omega)))
        have h42 : ¬ (u.toNat : Int) = 42 := fun h => hst (.inr (UInt8.toNat_inj.1 (by show u.toNat = 42; omega)))
        have h41b : ((u.toNat : Int) == 41) = false := by simpa using h41
        have h42b : ((u.toNat : Int) == 42) = false := by simpa using h42
        have h41n : ((u.toNat : Int) != 41) = true := by simpa using h41
        have h42n : ((u.toNat : Int) != 42) = true := by simpa using h42
        by_cases hno : u = 40 ∨ u.toNat < 32 ∨ 126 < u.toNat
        · have HR := Lib.hid (HBAD.out wr HV.out.keep (HV.out.no HU.out hno))
          by_cases h40 : (u.toNat : Int) = 40
          · have h40b : ((u.toNat : Int) == 40) = true := by simpa using h40
            go_wp2_with fail
            refine bodyPost_ret (results_tmp2 rfl _ _ _) rfl ?_
            exact HR.out
          · have h40b : ((u.toNat : Int) == 40) = false := by simpa using h40
            by_cases h32 : u.toNat < 32
            · have h32i : (u.toNat : Int) < 32 := by omega
              go_wp2_with fail
              refine bodyPost_ret (results_tmp2 rfl _ _ _) rfl ?_
              exact HR.out
            · have h32i : ¬ (u.toNat : Int) < 32 := by omega
              have h126 : 126 < u.toNat := by
                rcases hno with h | h | h
                · exact absurd (by rw [h]; rfl) h40
                · exact absurd h h32
                · exact h
              have h126i : (126 : Int) < (u.toNat : Int) := by omega
              go_wp2_with fail
              refine bodyPost_ret (results_tmp2 rfl _ _ _) rfl ?_
              exact HR.out
        · have h40 : ¬ (u.toNat : Int) = 40 := fun h => hno (.inl (UInt8.toNat_inj.1 (by show u.toNat = 40; omega)))
          have h40b : ((u.toNat : Int) == 40) = false := by simpa using h40
          have h32i : ¬ (u.toNat : Int) < 32 := by omega
          have h126i : ¬ (126 : Int) < (u.toNat : Int) := by omega
          by_cases h92 : u = 92
          · subst h92
            have h92z : ((92 : UInt8).toNat : Int) = 92 := rfl
            clear h41 h42 h41b h42b h40 h40b h32i h126i hno hst
            have b1 : ((92 : UInt8).toNat : Int) = 92 := rfl
            by_cases h2 : j + 2 < n
            · obtain ⟨a, ha⟩ : ∃ a, S[j + 1]? = some a := ⟨_, List.getElem?_eq_getElem (by have := HN.out; omega)⟩
              obtain ⟨b, hb⟩ : ∃ b, S[j + 2]? = some b := ⟨_, List.getElem?_eq_getElem (by have := HN.out; omega)⟩
              have HA := Lib.hid ha
              have HB := Lib.hid hb
              have hat1 := str_at S (j + 1) a ha
              have hat2 := str_at S (j + 2) b hb
              rw [show ((j + 1 : Nat) : Int) = (j : Int) + 1 by omega] at hat1
              rw [show ((j + 2 : Nat) : Int) = (j : Int) + 2 by omega] at hat2
              have HDA := Lib.hid (fun X => rdigit8_is a X)
              have HDB := Lib.hid (fun X => rdigit8_is b X)
              have hxa := digZ_in a
              have hxb := digZ_in b
              obtain ⟨X, hX⟩ : ∃ X, digZ a = X := ⟨_, rfl⟩
              obtain ⟨Y, hY⟩ : ∃ Y, digZ b = Y := ⟨_, rfl⟩
              rw [hX] at HDA hxa
              rw [hY] at HDB hxb
              have HX := Lib.hid hX
              have HY := Lib.hid hY
              obtain ⟨hxa1, hxa2⟩ := hxa
              obtain ⟨hxb1, hxb2⟩ := hxb
              have hj2 : ¬ (n : Int) ≤ (j : Int) + 2 := by omega
              clear ha hb hX hY
              by_cases hx0 : X < 0
              · have HR := Lib.hid (HBAD.out wr HV.out.keep (HV.out.bad HU.out (.inr ⟨a, b, HA.out, HB.out, .inl (by
                  have h9 := HX.out
                  unfold digZ at h9
                  cases h8 : dig1 a.toNat with
                  | none => rfl
                  | some k => rw [h8] at h9; dsimp only at h9; omega)⟩)))
                go_wp2_with fail
                refine (HDA.out _).mono ?_
                rintro e w1 ⟨rfl, rfl⟩
                go_wp2_with fail
                refine bodyPost_ret (results_tmp2 rfl _ _ _) rfl ?_
                exact HR.out
              · by_cases hy0 : Y < 0
                · have HR := Lib.hid (HBAD.out wr HV.out.keep (HV.out.bad HU.out (.inr ⟨a, b, HA.out, HB.out, .inr (by
                    have h9 := HY.out
                    unfold digZ at h9
                    cases h8 : dig1 b.toNat with
                    | none => rfl
                    | some k => rw [h8] at h9; dsimp only at h9; omega)⟩)))
                  go_wp2_with fail
                  refine (HDA.out _).mono ?_
                  rintro e w1 ⟨rfl, rfl⟩
                  go_wp2_with fail
                  refine (HDB.out _).mono ?_
                  rintro e w1 ⟨rfl, rfl⟩
                  go_wp2_with fail
                  refine bodyPost_ret (results_tmp2 rfl _ _ _) rfl ?_
                  exact HR.out
                · obtain ⟨x, hx⟩ : ∃ x, dig1 a.toNat = some x := by
                    have h9 := HX.out
                    unfold digZ at h9
                    cases h8 : dig1 a.toNat with
                    | none => rw [h8] at h9; dsimp only at h9; omega
                    | some k => exact ⟨k, rfl⟩
                  obtain ⟨y, hy⟩ : ∃ y, dig1 b.toNat = some y := by
                    have h9 := HY.out
                    unfold digZ at h9
                    cases h8 : dig1 b.toNat with
                    | none => rw [h8] at h9; dsimp only at h9; omega
                    | some k => exact ⟨k, rfl⟩
                  have HI := Lib.hid (HV.out.hex HU.out HA.out HB.out hx hy)
                  have hxX : X = (x : Int) := by have h9 := HX.out; unfold digZ at h9; rw [hx] at h9; exact h9.symm
                  have hyY : Y = (y : Int) := by have h9 := HY.out; unfold digZ at h9; rw [hy] at h9; exact h9.symm
                  obtain ⟨q, hq⟩ : ∃ q : UInt8, UInt8.ofNat (16 * x + y) = q := ⟨_, rfl⟩
                  have hqn : 16 * X + Y = (q.toNat : Int) := by rw [← hq]; simp; omega
                  rw [hq] at HI
                  have hq256 : q.toNat < 256 := q.toNat_lt
                  have HQN : Hid (16 * X + Y = (q.toNat : Int)) := hqn
                  have HQA : Hid (∀ m, Calls Tryz.prog 139 #[.int .u8 (a.toNat : Int)] (wr.drewN m) fun e w2 => e = .returned (.int .i64 X) ∧ ∃ m, w2 = wr.drewN m) := fun m => (HDA.out _).mono fun e w2 hh => ⟨hh.1, m, hh.2.symm⟩
                  have HQB : Hid (∀ m, Calls Tryz.prog 139 #[.int .u8 (b.toNat : Int)] (wr.drewN m) fun e w2 => e = .returned (.int .i64 Y) ∧ ∃ m, w2 = wr.drewN m) := fun m => (HDB.out _).mono fun e w2 hh => ⟨hh.1, m, hh.2.symm⟩
                  clear hx hy hxX hyY hq hqn
                  go_wp2_with fail
                  refine (HDA.out _).mono ?_
                  rintro e w1 ⟨rfl, rfl⟩
                  go_wp2_with fail
                  refine (HDB.out _).mono ?_
                  rintro e w1 ⟨rfl, rfl⟩
                  go_wp2_with fail
                  clear HDA HDB
                  have hat1w : ∀ W : World, (Instr.index 9 (.string ⟨S.toArray⟩) (.int .i64 (IntKind.i64.wrap ((j : Int) + 1)))).run Tryz.prog W = .ok (.int .u8 (a.toNat : Int)) W := fun W => by rw [IntWalk.i64_in ((j : Int) + 1) (by omega)]; exact hat1 W
                  have hat2w : ∀ W : World, (Instr.index 9 (.string ⟨S.toArray⟩) (.int .i64 (IntKind.i64.wrap ((j : Int) + 2)))).run Tryz.prog W = .ok (.int .u8 (b.toNat : Int)) W := fun W => by rw [IntWalk.i64_in ((j : Int) + 2) (by omega)]; exact hat2 W
                  go_big_quiet (first | (go_at_call 139; with_reducible exact HQA.out _) | (go_at_call 139; with_reducible exact HQB.out _))
                  rw [HQN.out]
                  have HK := Lib.hid ((Keeps.refl [] wr).drewN nq)
                  have HROW := Lib.hid (own_keep HV.out.row (HK.out.alloc (.cells ([q].map bv).toArray 5)) (fun b hb hm => by cases hm))
                  have HSZ : Hid (w.heap.size ≤ ((wr.drewN nq).alloc (.cells ([q].map bv).toArray 5)).heap.size) := (HV.out.keep.trans' (HK.out.alloc _)).size
                  clear hat1w hat2w hat1 hat2 HQA HQB HQN
                  clear hxa1 hxa2 hxb1 hxb2 hx0 hy0
                  go_wp2_with (at_builtin; refine wpList_append_opt rfl (.tmp 75) (.tmp 77) 37 rfl w.heap.size 5 iu _ 1 1 Tryz.underlying37 hiu hzu0 hzu1 hzu2 rfl (by decide) (.slice A an cc) an (acc.map bv) rfl HROW.out (some ⟨wr.heap.size, 0, none⟩) 1 1 ([q].map bv) rfl rfl (src_lit35 (wr.drewN nq) _ [q] rfl) bvs_one (by unfold maxLen; omega) (by omega) HSZ.out ?_; intro v3 w3 ho hg3 hs3; obtain ⟨VB, vd, hv3, hnew⟩ := HV.out.more (j2 := j + 3) (by omega) (by have := HN.out; omega) HI.out HK.out ho hg3; subst hv3; have HNEW := Lib.hid hnew; clear hnew ho hg3 hs3)
                  go_roundw
                  case rel => exact ⟨j + 3, an + 1, vd, VB, acc ++ [q], by go_num, rfl, by omega, HNEW.out⟩
                  case measure => simp [intOf]; omega
            · have HR := Lib.hid (HBAD.out wr HV.out.keep (HV.out.bad HU.out (.inl (by have := HN.out; omega))))
              have hj2 : (n : Int) ≤ (j : Int) + 2 := by omega
              go_wp2_with fail
              refine bodyPost_ret (results_tmp2 rfl _ _ _) rfl ?_
              exact HR.out
          · have h92i : ¬ (u.toNat : Int) = 92 := fun h => h92 (UInt8.toNat_inj.1 (by show u.toNat = 92; omega))
            have h92b : ((u.toNat : Int) == 92) = false := by simpa using h92i
            have HI := Lib.hid (HV.out.plain HU.out hst hno h92)
            have HROW := Lib.hid (own_keep HV.out.row ((Keeps.refl [] wr).alloc (.cells ([u].map bv).toArray 5)) (fun b hb hm => by cases hm))
            have HSZ : Hid (w.heap.size ≤ (wr.alloc (.cells ([u].map bv).toArray 5)).heap.size) := by show _ ≤ _; have := HV.out.keep.size; simp; omega
            clear hst hno h92
            go_wp2_with (at_builtin; refine wpList_append_opt rfl (.tmp 75) (.tmp 77) 37 rfl w.heap.size 5 iu _ 1 1 Tryz.underlying37 hiu hzu0 hzu1 hzu2 rfl (by decide) (.slice A an cc) an (acc.map bv) rfl HROW.out (some ⟨wr.heap.size, 0, none⟩) 1 1 ([u].map bv) rfl rfl (src_lit35 wr _ [u] rfl) bvs_one (by unfold maxLen; omega) (by omega) HSZ.out ?_; intro v3 w3 ho hg3 hs3; obtain ⟨VB, vd, hv3, hnew⟩ := HV.out.more (Nat.lt_succ_self j) (by have := HN.out; omega) HI.out (Keeps.refl [] wr) ho hg3; subst hv3; have HNEW := Lib.hid hnew; clear hnew ho hg3 hs3)
            go_roundw
            case rel => exact ⟨j + 1, an + 1, vd, VB, acc ++ [u], by go_num, rfl, by omega, HNEW.out⟩
            case measure => simp [intOf]; omega
    · have HQ := Lib.hid (HV.out.out (by have := HN.out; omega))
      have HR := Lib.hid (HBAD.out wr HV.out.keep HQ.out)
      have hnj : (n : Int) ≤ (j : Int) := by omega
      go_wp2_with fail
      refine bodyPost_ret (results_tmp2 rfl _ _ _) rfl ?_
      exact HR.out
end Go.Proofs.YtbfebljahjmjfaaGreatDoor
/- filter: the document's one, walked. -/
namespace Go.Proofs.YtbfebljahjmjfaaGreatDoor
open Go.RowKit Go.Shelf
set_option linter.unusedVariables false
set_option linter.unusedSimpArgs false
set_option maxRecDepth 100000

theorem oneR_no {d : Nat} {U : Txt} (h : ¬ (d ≤ 16 ∧ 2 ≤ U.length ∧ begP [40] U = true)) : oneR (2 * U.length + 2) d U = none := by
  unfold oneR
  rw [if_neg h]
set_option maxHeartbeats 8000000 in
theorem rone_no (T : Txt) (hT : T.length ≤ 1000000000) (d i : Nat) (w : World) (hd : d ≤ 17) (hi : i ≤ T.length) (hc : ¬ (d ≤ 16 ∧ 2 ≤ (T.drop i).length ∧ begP [40] (T.drop i) = true)) : Calls Tryz.prog 32 #[tv T, .int .i64 (i : Int), .int .i64 (d : Int)] w fun e w' => OnQ T i d w e w' := by
  obtain ⟨W0, hW0⟩ : ∃ W0, w.alloc (.cells #[.int .i64 0, .slice none 0 0, .string ⟨#[]⟩, .string ⟨#[]⟩] 26) = W0 := ⟨_, rfl⟩
  have hk0 : Keeps [] w W0 := by rw [← hW0]; exact (Keeps.refl [] w).alloc _
  have hr0 : W0.heap[w.heap.size]? = some (.cells #[.int .i64 0, .slice none 0 0, .string ⟨#[]⟩, .string ⟨#[]⟩] 26 (0, 0)) := by rw [← hW0]; exact heap_new8 w _
  have HR0 := Lib.hid (fun X (hk : Keeps [] W0 X) => blk_keep hr0 hk (by simp))
  have HK0 := Lib.hid hk0
  have FIN : Hid (∀ (X : World), Keeps [] W0 X → oneR (2 * (T.drop i).length + 2) d (T.drop i) = none → ∀ fn : Array Value, fn.getD 6 undef = .pointer (some ⟨w.heap.size, 0, none⟩) → fn.getD 7 undef = .int .i64 (-1) →
      bodyPost Tryz.prog Tryz.f32 (fun e w' => OnQ T i d w e w') .ret ⟨fn, []⟩ ((((X.setCell ⟨w.heap.size, 0, none⟩ (.int .i64 0)).setCell ⟨w.heap.size, 1, none⟩ (.slice none 0 0)).setCell ⟨w.heap.size, 2, none⟩ (.string ⟨#[]⟩)).setCell ⟨w.heap.size, 3, none⟩ (.string ⟨#[]⟩))) := by
    intro X hX hno fn h6 h7
    have HR6' := heap_setCell_same _ w.heap.size 0 _ _ (.int .i64 0) (HR0.out X hX)
    have HR7' := heap_setCell_same _ w.heap.size 1 _ _ (.slice none 0 0) HR6'
    have HR8' := heap_setCell_same _ w.heap.size 2 _ _ (.string ⟨#[]⟩) HR7'
    have hrow := heap_setCell_same _ w.heap.size 3 _ _ (.string ⟨#[]⟩) HR8'
    refine bodyPost_ret (results_fil_tmp rfl _ _ w.heap.size _ (0, 0) h6 rfl hrow) rfl ⟨fun t R ht => (by rw [hno] at ht; cases ht), fun _ => by rw [h7]; rfl, ?_⟩
    exact (((((HK0.out.trans' hX).setCell (.inr (Nat.le_refl _)) _).setCell (.inr (Nat.le_refl _)) _).setCell (.inr (Nat.le_refl _)) _).setCell (.inr (Nat.le_refl _)) _)
  obtain ⟨c0, c1, c2, c3⟩ := (four_facts8 hr0).1
  obtain ⟨f0, f1, f2, f3⟩ := (four_facts8 hr0).2
  obtain ⟨n, hn⟩ : ∃ n, T.length = n := ⟨_, rfl⟩
  have hsz : (⟨T.toArray⟩ : ByteArray).size = n := hn
  have HN := Lib.hid hn
  rw [hn] at hT hi
  clear hn hk0 hr0
  unfold tv at *
  have HNO := Lib.hid (oneR_no hc)
  have hi0 : (0 : Int) ≤ (i : Int) := by omega
  by_cases hd2 : d ≤ 16
  · have hdi : ¬ (16 : Int) < (d : Int) := by omega
    by_cases hi2 : i + 1 < n
    · have hii : ¬ (n : Int) ≤ (i : Int) + 1 := by omega
      have hin : (i : Int) < (n : Int) := by omega
      obtain ⟨u, hu⟩ : ∃ u, T[i]? = some u := ⟨_, List.getElem?_eq_getElem (by have := HN.out; omega)⟩
      have hat := str_at T i u hu
      have h40 : ¬ u = 40 := fun h => hc ⟨hd2, by have := HN.out; simp; omega, by
        obtain ⟨hj, h9⟩ := List.getElem?_eq_some_iff.1 hu
        rw [List.drop_eq_getElem_cons hj, h9, h]; simp [begP]⟩
      have h40i : ¬ (u.toNat : Int) = 40 := fun h => h40 (UInt8.toNat_inj.1 (by show u.toNat = 40; omega))
      have h40b : ((u.toNat : Int) == 40) = false := by simpa using h40i
      have h40n : ((u.toNat : Int) != 40) = true := by simpa using h40i
      have hul : u.toNat < 256 := u.toNat_lt
      go_enter Tryz.func32, Tryz.ntmps32
      go_wp2_with fail
      exact FIN.out W0 (Keeps.refl _ _) HNO.out _ rfl rfl
    · have hii : (n : Int) ≤ (i : Int) + 1 := by omega
      go_enter Tryz.func32, Tryz.ntmps32
      go_wp2_with fail
      exact FIN.out W0 (Keeps.refl _ _) HNO.out _ rfl rfl
  · have hdi : (16 : Int) < (d : Int) := by omega
    go_enter Tryz.func32, Tryz.ntmps32
    go_wp2_with fail
    exact FIN.out W0 (Keeps.refl _ _) HNO.out _ rfl rfl
end Go.Proofs.YtbfebljahjmjfaaGreatDoor
/- filter: what the walk of the document's one asks of its words. -/
namespace Go.Proofs.YtbfebljahjmjfaaGreatDoor
open Go.RowKit Go.Shelf
set_option linter.unusedVariables false
set_option linter.unusedSimpArgs false
set_option maxRecDepth 100000

/-- What value leaves begins with ')' or '*', and is the text's own end. -/
theorem valR_tail : ∀ (f : Nat) (T v R : Txt), valR f T = some (v, R) → (∃ u r, R = u :: r ∧ (u = 41 ∨ u = 42)) ∧ ∃ p, T = p ++ R
  | f, [], v, R, h => by cases f <;> simp [valR] at h
  | 0, c :: l, v, R, h => by simp [valR] at h
  | f + 1, c :: l, v, R, h => by
    unfold valR at h
    split at h
    · rename_i hc
      injection h with h; injection h with h1 h2; subst h2
      exact ⟨⟨c, l, rfl, hc⟩, [], rfl⟩
    · split at h
      · cases h
      · split at h
        · split at h
          · split at h
            · obtain ⟨p, hp, h⟩ := Option.map_eq_some_iff.1 h
              injection h with h1 h2
              subst h2
              obtain ⟨h3, q, h4⟩ := valR_tail f _ p.1 p.2 hp
              exact ⟨h3, c :: _ :: _ :: q, by rw [h4]; rfl⟩
            · cases h
          · cases h
        · obtain ⟨p, hp, h⟩ := Option.map_eq_some_iff.1 h
          injection h with h1 h2
          subst h2
          obtain ⟨h3, q, h4⟩ := valR_tail f _ p.1 p.2 hp
          exact ⟨h3, c :: q, by rw [h4]; rfl⟩
theorem drop_end {T p R : Txt} (h : T = p ++ R) : R = T.drop (T.length - R.length) := by
  subst h
  simp
theorem unt_step {T : Txt} {j : Nat} {u : UInt8} (h : T[j]? = some u) (hu : ¬ u = 61) : untP [61] (T.drop j) = (untP [61] (T.drop (j + 1))).map (· + 1) := by
  obtain ⟨hj, h9⟩ := List.getElem?_eq_some_iff.1 h
  rw [List.drop_eq_getElem_cons hj, h9]
  conv => lhs; unfold untP
  rw [if_neg (by simpa using hu)]
theorem unt_at {T : Txt} {j : Nat} (h : T[j]? = some 61) : untP [61] (T.drop j) = some 0 := by
  obtain ⟨hj, h9⟩ := List.getElem?_eq_some_iff.1 h
  rw [List.drop_eq_getElem_cons hj, h9]
  unfold untP
  rw [if_pos (by simp)]
theorem oneR_leaf {d : Nat} {T : Txt} (hd : d ≤ 16) (h2 : 2 ≤ T.length) (h40 : begP [40] T = true) (hs : sgnR (T.drop 1) = 0) : oneR (2 * T.length + 2) d T = match leafR (T.drop 1) with
      | none => none
      | some (k, s, v, R) => shutR (.mk k [] s v) R := by
  conv => lhs; unfold oneR
  rw [if_pos ⟨hd, h2, h40⟩, if_pos hs]
  cases leafR (T.drop 1) <;> rfl
theorem oneR_sign {d : Nat} {T : Txt} (hd : d ≤ 16) (h2 : 2 ≤ T.length) (h40 : begP [40] T = true) (hs : ¬ sgnR (T.drop 1) = 0) : oneR (2 * T.length + 2) d T = match manyR (2 * (T.drop 2).length + 1) d 0 (T.drop 2) with
      | none => none
      | some (l, R) => shutR (.mk (sgnR (T.drop 1) : Nat) l [] []) R := by
  conv => lhs; unfold oneR
  rw [if_pos ⟨hd, h2, h40⟩, if_neg hs, manyR_fuel (2 * T.length + 1) (2 * (T.drop 2).length + 1) d 0 (T.drop 2) (by simp; omega) (by omega)]
  cases manyR (2 * (T.drop 2).length + 1) d 0 (T.drop 2) <;> rfl
/-- One more of many. -/
theorem manyR_more {d m : Nat} {T R : Txt} {x : FV} (h40 : begP [40] T = true) (ho : oneR (2 * T.length + 2) (d + 1) T = some (x, R)) (hm : m ≤ 200) : manyR (2 * T.length + 1) d m T = (manyR (2 * R.length + 1) d (m + 1) R).map (fun p => (x :: p.1, p.2)) := by
  have hlen := oneR_len _ _ _ _ _ ho
  conv => lhs; unfold manyR
  rw [if_pos h40, oneR_fuel (2 * T.length) (2 * T.length + 2) (d + 1) T (by omega) (by omega), ho]
  dsimp only
  rw [if_neg (by omega), manyR_fuel (2 * T.length) (2 * R.length + 1) d (m + 1) R (by omega) (by omega)]
  cases manyR (2 * R.length + 1) d (m + 1) R <;> rfl
theorem manyR_stop {d m : Nat} {T : Txt} (h40 : ¬ begP [40] T = true) : manyR (2 * T.length + 1) d m T = some ([], T) := by
  unfold manyR
  rw [if_neg h40]
theorem manyR_bad {d m : Nat} {T : Txt} (h40 : begP [40] T = true) (ho : oneR (2 * T.length + 2) (d + 1) T = none ∨ 200 < m) : manyR (2 * T.length + 1) d m T = none := by
  unfold manyR
  rw [if_pos h40, oneR_fuel (2 * T.length) (2 * T.length + 2) (d + 1) T (by omega) (by omega)]
  rcases ho with ho | ho
  · rw [ho]
  · cases oneR (2 * T.length + 2) (d + 1) T with
    | none => rfl
    | some p => dsimp only; rw [if_pos ho]
end Go.Proofs.YtbfebljahjmjfaaGreatDoor
/- filter: the document's one: what a round of its loop over many finds. -/
namespace Go.Proofs.YtbfebljahjmjfaaGreatDoor
open Go.RowKit Go.Shelf
set_option linter.unusedVariables false
set_option linter.unusedSimpArgs false
set_option maxRecDepth 100000

/-- What a round finds: the filter under way in its box, those of it in a row of their own. -/
structure OneS (w wr : World) (k : Int) (A : Option Addr) (j c : Nat) (hs : List FH) (l : List FV) : Prop where
  box : wr.heap[w.heap.size + 1]? = some (.cells #[.int .i64 k, .slice A j c, .string ⟨#[]⟩, .string ⟨#[]⟩] 26 (0, 0))
  res : wr.heap[w.heap.size]? = some (.cells #[.int .i64 0, .slice none 0 0, .string ⟨#[]⟩, .string ⟨#[]⟩] 26 (0, 0))
  row : wr.ownsRow (w.heap.size + 2) 26 4 (.slice A j c) j (headsF hs)
  hsl : hs.length = j
  lsl : l.length = j
  items : ∀ (E : List Nat) X, (∀ x ∈ E, x < w.heap.size + 2 ∨ (Value.slice A j c).ownBlock = some x) → Keeps E wr X → ∀ (i : Nat) (t : FV) (h : FH), l[i]? = some t → hs[i]? = some h → FilAt X t h
  keep : Keeps [] w wr
  jn : j ≤ 201
theorem OneS.grow {w wr X : World} {k : Int} {A : Option Addr} {j c : Nat} {hs : List FH} {l : List FV} (H : OneS w wr k A j c hs l) (hX : Keeps [] wr X) : OneS w X k A j c hs l :=
  ⟨blk_keep H.box hX (by simp), blk_keep H.res hX (by simp), own_keep H.row hX (fun b hb hm => by cases hm), H.hsl, H.lsl, fun E Y hE hk => H.items E Y hE ((hX.mono (cs := E) (by simp)).trans hk (fun x hx => .inl hx)), H.keep.trans' hX, H.jn⟩
theorem OneS.new {w wr : World} {k : Int} (hb : wr.heap[w.heap.size + 1]? = some (.cells #[.int .i64 k, .slice none 0 0, .string ⟨#[]⟩, .string ⟨#[]⟩] 26 (0, 0))) (hr : wr.heap[w.heap.size]? = some (.cells #[.int .i64 0, .slice none 0 0, .string ⟨#[]⟩, .string ⟨#[]⟩] 26 (0, 0))) (hk : Keeps [] w wr) : OneS w wr k none 0 0 [] [] :=
  ⟨hb, hr, World.ownsRow_nil _ _ _ _, rfl, rfl, fun E X hE hX i t h ht => by simp at ht, hk, by omega⟩
theorem OneS.step {w wr w6 w7 w8 : World} {k : Int} {A A8 : Option Addr} {j c c8 : Nat} {hs : List FH} {l : List FV} (H : OneS w wr k A j c hs l)
    {t : FV} {h : FH} (k6 : Keeps [] wr w6) (hp : ∀ (E : List Nat) X, (∀ x ∈ E, x < wr.heap.size) → Keeps E w6 X → FilAt X t h) (hj : j ≤ 200) (k7 : Keeps [] w6 w7)
    (ho : w8.ownsRow (w.heap.size + 2) 26 4 (.slice A8 (j + 1) c8) (j + 1) (headsF hs ++ h.list)) (hg : w7.grownBy w8 (Value.slice A j c).ownBlock) (hs8 : (Value.slice A8 (j + 1) c8).ownBlock = (Value.slice A j c).ownBlock ∨ (Value.slice A8 (j + 1) c8).ownBlock = some w7.heap.size) :
    OneS w (w8.setCell ⟨w.heap.size + 1, 1, none⟩ (.slice A8 (j + 1) c8)) k A8 (j + 1) c8 (hs ++ [h]) (l ++ [t]) := by
  obtain ⟨B, hB⟩ : ∃ B, w.heap.size + 1 = B := ⟨_, rfl⟩
  have hB2 : w.heap.size + 2 = B + 1 := by omega
  have Hbox := H.box
  have Hrow := H.row
  have Hit := H.items
  rw [hB] at Hbox
  rw [hB2] at Hrow Hit ho
  have hz6 := k6.size
  have hz7 := k7.size
  have hjn := H.jn
  have hBr : B < wr.heap.size := lt_of_heap Hbox
  have k8 : Keeps (Value.slice A j c).ownBlock.toList w7 w8 := Keeps.of_grown hg (fun x hx => .inl (by rw [hx]; simp))
  have hz8 := k8.size
  have k9 : Keeps [B] w8 (w8.setCell ⟨B, 1, none⟩ (.slice A8 (j + 1) c8)) := (Keeps.refl [B] w8).setCell (.inl (by simp)) _
  have hvl : ∀ x ∈ (Value.slice A j c).ownBlock.toList, B + 1 ≤ x ∧ x < wr.heap.size := fun x hx => Hrow.lt x (by simpa using hx)
  have k68 : Keeps (Value.slice A j c).ownBlock.toList w6 w8 := (k7.mono (by simp)).trans k8 (fun x hx => .inl hx)
  have k69 : Keeps (B :: (Value.slice A j c).ownBlock.toList) w6 (w8.setCell ⟨B, 1, none⟩ (.slice A8 (j + 1) c8)) := (k68.mono (fun x hx => .inl (List.mem_cons_of_mem _ hx))).trans k9 (fun x hx => .inl (by simp at hx; simp [hx]))
  have kr9 : Keeps (B :: (Value.slice A j c).ownBlock.toList) wr (w8.setCell ⟨B, 1, none⟩ (.slice A8 (j + 1) c8)) := (k6.mono (by simp)).trans k69 (fun x hx => .inl hx)
  have hnb : ∀ x, x ≤ B → x ∉ (Value.slice A j c).ownBlock.toList := fun x hx hm => by have := hvl x hm; omega
  have hnb2 : ∀ x, x < B → x ∉ B :: (Value.slice A j c).ownBlock.toList := fun x hx hm => by
    rcases List.mem_cons.1 hm with hm | hm
    · omega
    · exact hnb x (by omega) hm
  have hbox8 : w8.heap[B]? = some (.cells #[.int .i64 k, .slice A j c, .string ⟨#[]⟩, .string ⟨#[]⟩] 26 (0, 0)) := blk_keep (blk_keep Hbox k6 (by simp)) k68 (hnb B (Nat.le_refl _))
  refine ⟨by rw [hB]; exact heap_setCell_same w8 B 1 _ _ _ hbox8, by rw [hB]; exact blk_keep (blk_keep H.res k6 (by simp)) k69 (hnb2 _ (by omega)), ?_, by simp [H.hsl], by simp [H.lsl], fun E X hE hk i t' h' ht' hh' => ?_, ?_, by omega⟩
  · rw [headsF_snoc, hB, hB2]
    exact own_keep ho k9 (fun b hb hm => by have := (ho.lt b hb).1; simp at hm; omega)
  · rw [hB2] at hE
    rw [hB] at hk
    have hcase : ∀ x ∈ E, x < wr.heap.size ∨ w7.heap.size ≤ x := fun x hx => by
      rcases hE x hx with h9 | h9
      · exact .inl (by omega)
      · rcases hs8 with h10 | h10
        · rw [h10] at h9
          exact .inl (hvl x (by rw [h9]; simp)).2
        · rw [h10] at h9
          injection h9 with h9
          exact .inr (by omega)
    have hold : ∀ x ∈ E, x < wr.heap.size → x < B + 1 ∨ (Value.slice A j c).ownBlock = some x := fun x hx hlt => by
      rcases hE x hx with h9 | h9
      · exact .inl h9
      · rcases hs8 with h10 | h10
        · rw [h10] at h9; exact .inr h9
        · rw [h10] at h9
          injection h9 with h9
          omega
    by_cases hj : i < j
    · rw [List.getElem?_append_left (by rw [H.lsl]; exact hj)] at ht'
      rw [List.getElem?_append_left (by rw [H.hsl]; exact hj)] at hh'
      have kX : Keeps ((B :: (Value.slice A j c).ownBlock.toList) ++ E.filter (fun x => decide (x < wr.heap.size))) wr X := by
        have k10 : Keeps ((B :: (Value.slice A j c).ownBlock.toList) ++ E.filter (fun x => decide (x < wr.heap.size))) wr _ := kr9.mono (fun x hx => .inl (List.mem_append_left _ hx))
        refine k10.trans hk (fun x hx => ?_)
        rcases hcase x hx with h9 | h9
        · exact .inl (List.mem_append_right _ (List.mem_filter.2 ⟨hx, by simpa using h9⟩))
        · exact .inr (by omega)
      refine Hit _ X (fun x hx => ?_) kX i t' h' ht' hh'
      rcases List.mem_append.1 hx with hx | hx
      · rcases List.mem_cons.1 hx with hx | hx
        · exact .inl (by omega)
        · exact .inr (by simpa using hx)
      · obtain ⟨h9, h10⟩ := List.mem_filter.1 hx
        exact hold x h9 (by simpa using h10)
    · have hja : i = j := by
        have := (List.getElem?_eq_some_iff.1 ht').1
        simp [H.lsl] at this
        omega
      subst hja
      rw [List.getElem?_append_right (by rw [H.lsl]; exact Nat.le_refl _), H.lsl] at ht'
      rw [List.getElem?_append_right (by rw [H.hsl]; exact Nat.le_refl _), H.hsl] at hh'
      simp at ht' hh'
      subst ht' hh'
      have kX : Keeps ((B :: (Value.slice A i c).ownBlock.toList) ++ E.filter (fun x => decide (x < wr.heap.size))) w6 X := by
        have k10 : Keeps ((B :: (Value.slice A i c).ownBlock.toList) ++ E.filter (fun x => decide (x < wr.heap.size))) w6 _ := k69.mono (fun x hx => .inl (List.mem_append_left _ hx))
        refine k10.trans hk (fun x hx => ?_)
        rcases hcase x hx with h9 | h9
        · exact .inl (List.mem_append_right _ (List.mem_filter.2 ⟨hx, by simpa using h9⟩))
        · exact .inr (by show w6.heap.size ≤ x; omega)
      refine hp _ X (fun x hx => ?_) kX
      rcases List.mem_append.1 hx with hx | hx
      · rcases List.mem_cons.1 hx with hx | hx
        · omega
        · have := (hvl x hx).2; omega
      · have : x < wr.heap.size := by simpa using (List.mem_filter.1 hx).2
        omega
  · rw [hB]
    refine H.keep.trans kr9 (fun x hx => ?_)
    rcases List.mem_cons.1 hx with hx | hx
    · exact .inr (by omega)
    · exact .inr (by have := (hvl x hx).1; omega)
/-- What the end leaves: the filter as it is told. -/
theorem OneS.fin {w wr : World} {k : Int} {A : Option Addr} {j c : Nat} {hs : List FH} {l : List FV} (H : OneS w wr k A j c hs l) {w3 : World} (k3 : Keeps [w.heap.size] wr w3) (hk : -9223372036854775808 ≤ k ∧ k ≤ 9223372036854775807) :
    ∀ (E : List Nat) X, (∀ x ∈ E, x < w.heap.size) → Keeps E w3 X → FilAt X (.mk k l [] []) ⟨k, A, j, c, [], []⟩ := fun E X hE hX => by
  have kX : Keeps (w.heap.size :: E) wr X := (k3.mono (cs := w.heap.size :: E) (fun x hx => .inl (by simp at hx; simp [hx]))).trans hX (fun x hx => .inl (by simp [hx]))
  have hrow := own_keep H.row kX (fun b hb hm => by
    have h9 := (H.row.lt b hb).1
    rcases List.mem_cons.1 hm with hm | hm
    · omega
    · have := hE b hm; omega)
  have hcap := cap_of_own hrow
  refine ⟨rfl, rfl, rfl, hk.1, hk.2, Nat.zero_le _, Nat.zero_le _, H.lsl, hcap.1, hcap.2, fils_own hrow H.hsl H.lsl (fun i t' h' ht' hh' => H.items (w.heap.size :: E) X (fun x hx => ?_) kX i t' h' ht' hh')⟩
  rcases List.mem_cons.1 hx with hx | hx
  · exact .inl (by omega)
  · exact .inl (by have := hE x hx; omega)
/-- How far many has come: what is left of it behind those that stand. -/
def OneM (T : Txt) (i d p : Nat) (l : List FV) : Prop := manyR (2 * (T.drop i).length + 1) d 0 (T.drop i) = (manyR (2 * (T.drop p).length + 1) d l.length (T.drop p)).map (fun q => (l ++ q.1, q.2))
theorem OneM.new (T : Txt) (i d : Nat) : OneM T i d i [] := by
  unfold OneM
  cases manyR (2 * (T.drop i).length + 1) d 0 (T.drop i) <;> rfl
theorem OneM.more {T : Txt} {i d p : Nat} {l : List FV} (h : OneM T i d p l) {t : FV} {R : Txt} (h40 : begP [40] (T.drop p) = true) (ho : oneR (2 * (T.drop p).length + 2) (d + 1) (T.drop p) = some (t, R)) (hm : l.length ≤ 200) {q : Nat} (hq : T.drop q = R) : OneM T i d q (l ++ [t]) := by
  unfold OneM at *
  rw [h, manyR_more h40 ho hm, hq, List.length_append]
  show _ = Option.map _ (manyR _ d (l.length + 1) R)
  cases manyR (2 * R.length + 1) d (l.length + 1) R <;> simp
theorem OneM.bad {T : Txt} {i d p : Nat} {l : List FV} (h : OneM T i d p l) (h40 : begP [40] (T.drop p) = true) (ho : oneR (2 * (T.drop p).length + 2) (d + 1) (T.drop p) = none ∨ 200 < l.length) : manyR (2 * (T.drop i).length + 1) d 0 (T.drop i) = none := by
  unfold OneM at h
  rw [h, manyR_bad h40 ho]
  rfl
theorem OneM.stop {T : Txt} {i d p : Nat} {l : List FV} (h : OneM T i d p l) (h40 : ¬ begP [40] (T.drop p) = true) : manyR (2 * (T.drop i).length + 1) d 0 (T.drop i) = some (l, T.drop p) := by
  unfold OneM at h
  rw [h, manyR_stop h40]
  simp
end Go.Proofs.YtbfebljahjmjfaaGreatDoor
