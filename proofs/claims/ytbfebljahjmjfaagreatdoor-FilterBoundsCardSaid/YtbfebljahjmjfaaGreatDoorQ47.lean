import Derived.Test.YtbfebljahjmjfaaGreatDoorQ46
import Derived.BigQuiet
import Derived.Test.YtbfebljahjmjfaaGreatDoorQ35
import Derived.Test.YtbfebljahjmjfaaGreatDoorQ31
/- filter: the document's value; walked. -/
namespace Go.Proofs.YtbfebljahjmjfaaGreatDoor
open Go.RowKit Go.Shelf
set_option linter.unusedVariables false
set_option linter.unusedSimpArgs false
set_option maxRecDepth 100000

/-- What a round of the document's value finds. -/
structure VlS (S : Txt) (i j : Nat) (V wr : World) (A : Option Addr) (an cc : Nat) (acc : Txt) : Prop where
 inv : ∃ f, (S.drop j).length ≤ f ∧ valR (S.drop i).length (S.drop i) = (valR f (S.drop j)).map (fun p => (acc ++ p.1, p.2))
 len : acc.length = an
 few : an ≤ j
 jle : j ≤ S.length
 row : wr.ownsRow V.heap.size 5 1 (.slice A an cc) an (acc.map bv)
 keep : Keeps [] V wr
theorem VlS.more {S acc : Txt} {i j j2 an cc : Nat} {x : UInt8} {V wr w2 w3 : World} {A : Option Addr} {v : Value} (h : VlS S i j V wr A an cc acc) (hj : j < j2) (hj2 : j2 ≤ S.length) (hi : ∃ f, (S.drop j2).length ≤ f ∧ valR (S.drop i).length (S.drop i) = (valR f (S.drop j2)).map (fun p => ((acc ++ [x]) ++ p.1, p.2))) (hk : Keeps [] wr w2)
  (ho : w3.ownsRow V.heap.size 5 1 v (an + 1) (acc.map bv ++ [bv x])) (hg : (w2.alloc (.cells #[bv x] 5)).grownBy w3 (Value.slice A an cc).ownBlock) : ∃ VB vd, v = .slice VB (an + 1) vd ∧ VlS S i j2 V w3 VB (an + 1) vd (acc ++ [x]) := by
 obtain ⟨VB, vd, hv⟩ := own_slice ho
 subst hv
 have hrow2 : (w2.alloc (.cells #[bv x] 5)).ownsRow V.heap.size 5 1 (.slice A an cc) an (acc.map bv) := own_keep h.row (hk.alloc _) (fun b hb hm => by cases hm)
 have := h.few
 exact ⟨VB, vd, rfl, hi, by simp [h.len], by omega, hj2, by simpa using ho, keeps_own35 hrow2 (h.keep.trans' (hk.alloc _)) hg⟩
theorem VlS.stop {S acc : Txt} {i j an cc : Nat} {u : UInt8} {V wr : World} {A : Option Addr} (h : VlS S i j V wr A an cc acc) (hu : S[j]? = some u) (h4 : u = 41 ∨ u = 42) : valR (S.drop i).length (S.drop i) = some (acc, S.drop j) := by
 obtain ⟨f, h1, h2⟩ := h.inv
 obtain ⟨hj, rfl⟩ := List.getElem?_eq_some_iff.1 hu
 rw [h2, List.drop_eq_getElem_cons hj]
 rw [List.drop_eq_getElem_cons hj] at h1
 cases f with
 | zero => exact absurd h1 (by rw [List.length_cons]; omega)
 | succ f =>
  unfold valR
  rw [if_pos h4]
  simp
theorem VlS.out {S acc : Txt} {i j an cc : Nat} {V wr : World} {A : Option Addr} (h : VlS S i j V wr A an cc acc) (hj : j = S.length) : valR (S.drop i).length (S.drop i) = none := by
 obtain ⟨f, h1, h2⟩ := h.inv
 rw [h2, hj, List.drop_length]
 cases f <;> simp [valR]
theorem VlS.no {S acc : Txt} {i j an cc : Nat} {u : UInt8} {V wr : World} {A : Option Addr} (h : VlS S i j V wr A an cc acc) (hu : S[j]? = some u) (h4 : u = 40 ∨ u.toNat < 32 ∨ 126 < u.toNat) : valR (S.drop i).length (S.drop i) = none := by
 obtain ⟨f, h1, h2⟩ := h.inv
 obtain ⟨hj, rfl⟩ := List.getElem?_eq_some_iff.1 hu
 rw [h2, List.drop_eq_getElem_cons hj]
 rw [List.drop_eq_getElem_cons hj] at h1
 cases f with
 | zero => exact absurd h1 (by rw [List.length_cons]; omega)
 | succ f =>
  have h5 : ¬ (S[j] = 41 ∨ S[j] = 42) := by
   rintro (h5 | h5) <;> rw [h5] at h4 <;> revert h4 <;> decide
  unfold valR
  rw [if_neg h5, if_pos h4]
  rfl
theorem VlS.plain {S acc : Txt} {i j an cc : Nat} {u : UInt8} {V wr : World} {A : Option Addr} (h : VlS S i j V wr A an cc acc) (hu : S[j]? = some u) (h1 : ¬ (u = 41 ∨ u = 42)) (h2 : ¬ (u = 40 ∨ u.toNat < 32 ∨ 126 < u.toNat)) (h3 : u ≠ 92) : ∃ f, (S.drop (j + 1)).length ≤ f ∧ valR (S.drop i).length (S.drop i) = (valR f (S.drop (j + 1))).map (fun p => ((acc ++ [u]) ++ p.1, p.2)) := by
 obtain ⟨f, h5, h6⟩ := h.inv
 obtain ⟨hj, rfl⟩ := List.getElem?_eq_some_iff.1 hu
 rw [List.drop_eq_getElem_cons hj] at h5 h6
 cases f with
 | zero => exact absurd h5 (by simp only [List.length_cons]; omega)
 | succ f =>
  simp only [List.length_cons] at h5
  refine ⟨f, by omega, ?_⟩
  rw [h6]
  conv => lhs; unfold valR
  rw [if_neg h1, if_neg h2, if_neg h3]
  cases valR f (S.drop (j + 1)) <;> simp
theorem VlS.hex {S acc : Txt} {i j an cc : Nat} {a b : UInt8} {x y : Nat} {V wr : World} {A : Option Addr} (h : VlS S i j V wr A an cc acc) (hu : S[j]? = some 92) (ha : S[j + 1]? = some a) (hb : S[j + 2]? = some b) (hx : dig1 a.toNat = some x) (hy : dig1 b.toNat = some y) : ∃ f, (S.drop (j + 3)).length ≤ f ∧ valR (S.drop i).length (S.drop i) = (valR f (S.drop (j + 3))).map (fun p => ((acc ++ [UInt8.ofNat (16 * x + y)]) ++ p.1, p.2)) := by
 obtain ⟨f, h5, h6⟩ := h.inv
 obtain ⟨hj, h92⟩ := List.getElem?_eq_some_iff.1 hu
 obtain ⟨hj1, rfl⟩ := List.getElem?_eq_some_iff.1 ha
 obtain ⟨hj2, rfl⟩ := List.getElem?_eq_some_iff.1 hb
 rw [List.drop_eq_getElem_cons hj, h92, List.drop_eq_getElem_cons hj1, List.drop_eq_getElem_cons hj2] at h5 h6
 cases f with
 | zero => exact absurd h5 (by simp only [List.length_cons]; omega)
 | succ f =>
  simp only [List.length_cons] at h5
  refine ⟨f, (by show (S.drop (j + 2 + 1)).length ≤ f; omega), ?_⟩
  rw [h6]
  conv => lhs; unfold valR
  rw [if_neg (by decide), if_neg (by decide), if_pos rfl]
  dsimp only
  rw [hx, hy]
  dsimp only
  cases valR f (S.drop (j + 3)) <;> simp
theorem VlS.bad {S acc : Txt} {i j an cc : Nat} {V wr : World} {A : Option Addr} (h : VlS S i j V wr A an cc acc) (hu : S[j]? = some 92) (hb : S.length ≤ j + 2 ∨ ∃ a b, S[j + 1]? = some a ∧ S[j + 2]? = some b ∧ (dig1 a.toNat = none ∨ dig1 b.toNat = none)) : valR (S.drop i).length (S.drop i) = none := by
 obtain ⟨f, h5, h6⟩ := h.inv
 obtain ⟨hj, h92⟩ := List.getElem?_eq_some_iff.1 hu
 rw [List.drop_eq_getElem_cons hj, h92] at h5 h6
 cases f with
 | zero => exact absurd h5 (by simp only [List.length_cons]; omega)
 | succ f =>
  rw [h6]
  conv => lhs; unfold valR
  rw [if_neg (by decide), if_neg (by decide), if_pos rfl]
  rcases hb with hb | ⟨a, b, ha, hb, h9⟩
  ·have hl : (S.drop (j + 1)).length < 2 := by simp; omega
   match hq : S.drop (j + 1), hl with
   | [], _ => rfl
   | [a], _ => rfl
  ·obtain ⟨hj1, rfl⟩ := List.getElem?_eq_some_iff.1 ha
   obtain ⟨hj2, rfl⟩ := List.getElem?_eq_some_iff.1 hb
   rw [List.drop_eq_getElem_cons hj1, List.drop_eq_getElem_cons hj2]
   dsimp only
   rcases h9 with h9 | h9
   ·rw [h9]; rfl
   ·rw [h9]; cases dig1 S[j + 1].toNat <;> rfl
/-- How the document's value ends. -/
def RvlQ (S : Txt) (i : Nat) (w : World) (e : Ending) (w' : World) : Prop := (∀ v R, valR (S.drop i).length (S.drop i) = some (v, R) → e = .returned (.tuple #[tv v, .int .i64 ((S.length - R.length : Nat) : Int)])) ∧ (valR (S.drop i).length (S.drop i) = none → e = .returned (.tuple #[tv [], .int .i64 (-1)])) ∧ Keeps [] w w'
set_option maxHeartbeats 16000000 in
theorem rvalue8_is (S : Txt) (i : Nat) (w : World) (hS : S.length ≤ 1000000000) (hi : i ≤ S.length) :
  Calls Tryz.prog 85 #[tv S, .int .i64 (i : Int)] w fun e w' => RvlQ S i w e w' := by
 obtain ⟨iu, hiu, hzu0, hzu1, hzu2⟩ := info_parts u8_info
 have HDG := Lib.hid rdigit8_is
 obtain ⟨n, hn⟩ : ∃ n, S.length = n := ⟨_, rfl⟩
 have hsz : (⟨S.toArray⟩ : ByteArray).size = n := hn
 have HN := Lib.hid hn
 have HBAD : Hid (∀ X, Keeps [] w X → valR (S.drop i).length (S.drop i) = none → RvlQ S i w (.returned (.tuple #[tv [], .int .i64 (-1)])) X) := fun X hX h9 => ⟨fun v R h => (by rw [h9] at h; cases h), fun _ => rfl, hX⟩
 have H0 : Hid (VlS S i i w w none 0 0 []) := ⟨⟨(S.drop i).length, Nat.le_refl _, by cases valR (S.drop i).length (S.drop i) <;> simp⟩, rfl, Nat.zero_le _, hi, World.ownsRow_nil _ _ _ _, Keeps.refl _ _⟩
 rw [hn] at hS hi
 clear hn
 unfold tv at *
 go_enter Tryz.func85, Tryz.ntmps85
 go_wp2_with fail
 go_loopw [1, 6] (fun a o wr => ∃ (j an cc : Nat) (A : Option Addr) (acc : Txt), a = .int .i64 (j : Int) ∧ o = .slice A an cc ∧ j ≤ n ∧ Hid (VlS S i j w wr A an cc acc)) (fun a _ _ => n - (intOf a).toNat)
 case atStart => exact ⟨i, 0, 0, none, [], rfl, rfl, hi, H0.out⟩
 case round =>
  obtain ⟨j, an, cc, A, acc, rfl, rfl, hj, HV⟩ := hrel
  have han : an ≤ n := Nat.le_trans HV.out.few hj
  by_cases hlt : j < n
  ·obtain ⟨u, hu⟩ : ∃ u, S[j]? = some u := ⟨_, List.getElem?_eq_getElem (by have := HN.out; omega)⟩
   have HU := Lib.hid hu
   have hat := str_at S j u hu
   have hul : u.toNat < 256 := u.toNat_lt
   have hji : (j : Int) < (n : Int) := by omega
   have hj0 : (0 : Int) ≤ (j : Int) := by omega
   clear hu
   by_cases hst : u = 41 ∨ u = 42
   ·have HQ := Lib.hid (HV.out.stop HU.out hst)
    have hcb := conv_bytes (BytesAt.of_own (by have h9 := HV.out.row; rw [← HV.out.len] at h9; exact h9))
    rw [HV.out.len] at hcb
    have HR : Hid (RvlQ S i w (.returned (.tuple #[.string ⟨acc.toArray⟩, .int .i64 (j : Int)])) wr) := by
     refine ⟨fun v R h => ?_, fun h => (by rw [HQ.out] at h; cases h), HV.out.keep⟩
     rw [HQ.out] at h
     injection h with h
     injection h with h1 h2
     subst h1 h2
     have : S.length - (S.drop j).length = j := by have := HN.out; simp; omega
     rw [this]
     rfl
    have hnj : ¬ (n : Int) ≤ (j : Int) := by omega
    rcases hst with rfl | rfl
    all_goals
     have h4 : ((41 : UInt8).toNat : Int) = 41 := rfl
     have h42 : ((42 : UInt8).toNat : Int) = 42 := rfl
     go_wp2_with fail
     refine bodyPost_ret (results_tmp2 rfl _ _ _) rfl ?_
     exact HR.out
   ·have h41 : ¬ (u.toNat : Int) = 41 := fun h => hst (.inl (UInt8.toNat_inj.1 (by show u.toNat = 41; omega)))
    have h42 : ¬ (u.toNat : Int) = 42 := fun h => hst (.inr (UInt8.toNat_inj.1 (by show u.toNat = 42; omega)))
    have h41b : ((u.toNat : Int) == 41) = false := by simpa using h41
    have h42b : ((u.toNat : Int) == 42) = false := by simpa using h42
    have h41n : ((u.toNat : Int) != 41) = true := by simpa using h41
    have h42n : ((u.toNat : Int) != 42) = true := by simpa using h42
    by_cases hno : u = 40 ∨ u.toNat < 32 ∨ 126 < u.toNat
    ·have HR := Lib.hid (HBAD.out wr HV.out.keep (HV.out.no HU.out hno))
     by_cases h40 : (u.toNat : Int) = 40
     ·have h40b : ((u.toNat : Int) == 40) = true := by simpa using h40
      go_wp2_with fail
      refine bodyPost_ret (results_tmp2 rfl _ _ _) rfl ?_
      exact HR.out
     ·have h40b : ((u.toNat : Int) == 40) = false := by simpa using h40
      by_cases h32 : u.toNat < 32
      ·have h32i : (u.toNat : Int) < 32 := by omega
       go_wp2_with fail
       refine bodyPost_ret (results_tmp2 rfl _ _ _) rfl ?_
       exact HR.out
      ·have h32i : ¬ (u.toNat : Int) < 32 := by omega
       have h126 : 126 < u.toNat := by
        rcases hno with h | h | h
        ·exact absurd (by rw [h]; rfl) h40
        ·exact absurd h h32
        ·exact h
       have h126i : (126 : Int) < (u.toNat : Int) := by omega
       go_wp2_with fail
       refine bodyPost_ret (results_tmp2 rfl _ _ _) rfl ?_
       exact HR.out
    ·have h40 : ¬ (u.toNat : Int) = 40 := fun h => hno (.inl (UInt8.toNat_inj.1 (by show u.toNat = 40; omega)))
     have h40b : ((u.toNat : Int) == 40) = false := by simpa using h40
     have h32i : ¬ (u.toNat : Int) < 32 := by omega
     have h126i : ¬ (126 : Int) < (u.toNat : Int) := by omega
     by_cases h92 : u = 92
     ·subst h92
      have h92z : ((92 : UInt8).toNat : Int) = 92 := rfl
      clear h41 h42 h41b h42b h40 h40b h32i h126i hno hst
      have b1 : ((92 : UInt8).toNat : Int) = 92 := rfl
      by_cases h2 : j + 2 < n
      ·obtain ⟨a, ha⟩ : ∃ a, S[j + 1]? = some a := ⟨_, List.getElem?_eq_getElem (by have := HN.out; omega)⟩
       obtain ⟨b, hb⟩ : ∃ b, S[j + 2]? = some b := ⟨_, List.getElem?_eq_getElem (by have := HN.out; omega)⟩
       have HA := Lib.hid ha
       have HB := Lib.hid hb
       have hat1 := str_at S (j + 1) a ha
       have hat2 := str_at S (j + 2) b hb
       rw [show ((j + 1 : Nat) : Int) = (j : Int) + 1 by omega] at hat1
       rw [show ((j + 2 : Nat) : Int) = (j : Int) + 2 by omega] at hat2
       have HDA := Lib.hid (fun X => rdigit8_is a X)
       have HDB := Lib.hid (fun X => rdigit8_is b X)
       have hxa := digZ_in a
       have hxb := digZ_in b
       obtain ⟨X, hX⟩ : ∃ X, digZ a = X := ⟨_, rfl⟩
       obtain ⟨Y, hY⟩ : ∃ Y, digZ b = Y := ⟨_, rfl⟩
       rw [hX] at HDA hxa
       rw [hY] at HDB hxb
       have HX := Lib.hid hX
       have HY := Lib.hid hY
       obtain ⟨hxa1, hxa2⟩ := hxa
       obtain ⟨hxb1, hxb2⟩ := hxb
       have hj2 : ¬ (n : Int) ≤ (j : Int) + 2 := by omega
       clear ha hb hX hY
       by_cases hx0 : X < 0
       ·have HR := Lib.hid (HBAD.out wr HV.out.keep (HV.out.bad HU.out (.inr ⟨a, b, HA.out, HB.out, .inl (by
         have h9 := HX.out
         unfold digZ at h9
         cases h8 : dig1 a.toNat with
         | none => rfl
         | some k => rw [h8] at h9; dsimp only at h9; omega)⟩)))
        go_wp2_with fail
        refine (HDA.out _).mono ?_
        rintro e w1 ⟨rfl, rfl⟩
        go_wp2_with fail
        refine bodyPost_ret (results_tmp2 rfl _ _ _) rfl ?_
        exact HR.out
       ·by_cases hy0 : Y < 0
        ·have HR := Lib.hid (HBAD.out wr HV.out.keep (HV.out.bad HU.out (.inr ⟨a, b, HA.out, HB.out, .inr (by
          have h9 := HY.out
          unfold digZ at h9
          cases h8 : dig1 b.toNat with
          | none => rfl
          | some k => rw [h8] at h9; dsimp only at h9; omega)⟩)))
         go_wp2_with fail
         refine (HDA.out _).mono ?_
         rintro e w1 ⟨rfl, rfl⟩
         go_wp2_with fail
         refine (HDB.out _).mono ?_
         rintro e w1 ⟨rfl, rfl⟩
         go_wp2_with fail
         refine bodyPost_ret (results_tmp2 rfl _ _ _) rfl ?_
         exact HR.out
        ·obtain ⟨x, hx⟩ : ∃ x, dig1 a.toNat = some x := by
          have h9 := HX.out
          unfold digZ at h9
          cases h8 : dig1 a.toNat with
          | none => rw [h8] at h9; dsimp only at h9; omega
          | some k => exact ⟨k, rfl⟩
         obtain ⟨y, hy⟩ : ∃ y, dig1 b.toNat = some y := by
          have h9 := HY.out
          unfold digZ at h9
          cases h8 : dig1 b.toNat with
          | none => rw [h8] at h9; dsimp only at h9; omega
          | some k => exact ⟨k, rfl⟩
         have HI := Lib.hid (HV.out.hex HU.out HA.out HB.out hx hy)
         have hxX : X = (x : Int) := by have h9 := HX.out; unfold digZ at h9; rw [hx] at h9; exact h9.symm
         have hyY : Y = (y : Int) := by have h9 := HY.out; unfold digZ at h9; rw [hy] at h9; exact h9.symm
         obtain ⟨q, hq⟩ : ∃ q : UInt8, UInt8.ofNat (16 * x + y) = q := ⟨_, rfl⟩
         have hqn : 16 * X + Y = (q.toNat : Int) := by rw [← hq]; simp; omega
         rw [hq] at HI
         have hq256 : q.toNat < 256 := q.toNat_lt
         have HQN : Hid (16 * X + Y = (q.toNat : Int)) := hqn
         have HQA : Hid (∀ m, Calls Tryz.prog 139 #[.int .u8 (a.toNat : Int)] (wr.drewN m) fun e w2 => e = .returned (.int .i64 X) ∧ ∃ m, w2 = wr.drewN m) := fun m => (HDA.out _).mono fun e w2 hh => ⟨hh.1, m, hh.2.symm⟩
         have HQB : Hid (∀ m, Calls Tryz.prog 139 #[.int .u8 (b.toNat : Int)] (wr.drewN m) fun e w2 => e = .returned (.int .i64 Y) ∧ ∃ m, w2 = wr.drewN m) := fun m => (HDB.out _).mono fun e w2 hh => ⟨hh.1, m, hh.2.symm⟩
         clear hx hy hxX hyY hq hqn
         go_wp2_with fail
         refine (HDA.out _).mono ?_
         rintro e w1 ⟨rfl, rfl⟩
         go_wp2_with fail
         refine (HDB.out _).mono ?_
         rintro e w1 ⟨rfl, rfl⟩
         go_wp2_with fail
         clear HDA HDB
         have hat1w : ∀ W : World, (Instr.index 9 (.string ⟨S.toArray⟩) (.int .i64 (IntKind.i64.wrap ((j : Int) + 1)))).run Tryz.prog W = .ok (.int .u8 (a.toNat : Int)) W := fun W => by rw [IntWalk.i64_in ((j : Int) + 1) (by omega)]; exact hat1 W
         have hat2w : ∀ W : World, (Instr.index 9 (.string ⟨S.toArray⟩) (.int .i64 (IntKind.i64.wrap ((j : Int) + 2)))).run Tryz.prog W = .ok (.int .u8 (b.toNat : Int)) W := fun W => by rw [IntWalk.i64_in ((j : Int) + 2) (by omega)]; exact hat2 W
         go_big_quiet (first | (go_at_call 139; with_reducible exact HQA.out _) | (go_at_call 139; with_reducible exact HQB.out _))
         rw [HQN.out]
         have HK := Lib.hid ((Keeps.refl [] wr).drewN nq)
         have HROW := Lib.hid (own_keep HV.out.row (HK.out.alloc (.cells ([q].map bv).toArray 5)) (fun b hb hm => by cases hm))
         have HSZ : Hid (w.heap.size ≤ ((wr.drewN nq).alloc (.cells ([q].map bv).toArray 5)).heap.size) := (HV.out.keep.trans' (HK.out.alloc _)).size
         clear hat1w hat2w hat1 hat2 HQA HQB HQN
         clear hxa1 hxa2 hxb1 hxb2 hx0 hy0
         go_wp2_with (at_builtin; refine wpList_append_opt rfl (.tmp 75) (.tmp 77) 37 rfl w.heap.size 5 iu _ 1 1 Tryz.underlying37 hiu hzu0 hzu1 hzu2 rfl (by decide) (.slice A an cc) an (acc.map bv) rfl HROW.out (some ⟨wr.heap.size, 0, none⟩) 1 1 ([q].map bv) rfl rfl (src_lit35 (wr.drewN nq) _ [q] rfl) bvs_one (by unfold maxLen; omega) (by omega) HSZ.out ?_; intro v3 w3 ho hg3 hs3; obtain ⟨VB, vd, hv3, hnew⟩ := HV.out.more (j2 := j + 3) (by omega) (by have := HN.out; omega) HI.out HK.out ho hg3; subst hv3; have HNEW := Lib.hid hnew; clear hnew ho hg3 hs3)
         go_roundw
         case rel => exact ⟨j + 3, an + 1, vd, VB, acc ++ [q], by go_num, rfl, by omega, HNEW.out⟩
         case measure => simp [intOf]; omega
      ·have HR := Lib.hid (HBAD.out wr HV.out.keep (HV.out.bad HU.out (.inl (by have := HN.out; omega))))
       have hj2 : (n : Int) ≤ (j : Int) + 2 := by omega
       go_wp2_with fail
       refine bodyPost_ret (results_tmp2 rfl _ _ _) rfl ?_
       exact HR.out
     ·have h92i : ¬ (u.toNat : Int) = 92 := fun h => h92 (UInt8.toNat_inj.1 (by show u.toNat = 92; omega))
      have h92b : ((u.toNat : Int) == 92) = false := by simpa using h92i
      have HI := Lib.hid (HV.out.plain HU.out hst hno h92)
      have HROW := Lib.hid (own_keep HV.out.row ((Keeps.refl [] wr).alloc (.cells ([u].map bv).toArray 5)) (fun b hb hm => by cases hm))
      have HSZ : Hid (w.heap.size ≤ (wr.alloc (.cells ([u].map bv).toArray 5)).heap.size) := by show _ ≤ _; have := HV.out.keep.size; simp; omega
      clear hst hno h92
      go_wp2_with (at_builtin; refine wpList_append_opt rfl (.tmp 75) (.tmp 77) 37 rfl w.heap.size 5 iu _ 1 1 Tryz.underlying37 hiu hzu0 hzu1 hzu2 rfl (by decide) (.slice A an cc) an (acc.map bv) rfl HROW.out (some ⟨wr.heap.size, 0, none⟩) 1 1 ([u].map bv) rfl rfl (src_lit35 wr _ [u] rfl) bvs_one (by unfold maxLen; omega) (by omega) HSZ.out ?_; intro v3 w3 ho hg3 hs3; obtain ⟨VB, vd, hv3, hnew⟩ := HV.out.more (Nat.lt_succ_self j) (by have := HN.out; omega) HI.out (Keeps.refl [] wr) ho hg3; subst hv3; have HNEW := Lib.hid hnew; clear hnew ho hg3 hs3)
      go_roundw
      case rel => exact ⟨j + 1, an + 1, vd, VB, acc ++ [u], by go_num, rfl, by omega, HNEW.out⟩
      case measure => simp [intOf]; omega
  ·have HQ := Lib.hid (HV.out.out (by have := HN.out; omega))
   have HR := Lib.hid (HBAD.out wr HV.out.keep HQ.out)
   have hnj : (n : Int) ≤ (j : Int) := by omega
   go_wp2_with fail
   refine bodyPost_ret (results_tmp2 rfl _ _ _) rfl ?_
   exact HR.out
end Go.Proofs.YtbfebljahjmjfaaGreatDoor
/- filter: the document's one, walked. -/
namespace Go.Proofs.YtbfebljahjmjfaaGreatDoor
open Go.RowKit Go.Shelf
set_option linter.unusedVariables false
set_option linter.unusedSimpArgs false
set_option maxRecDepth 100000

theorem oneR_no {d : Nat} {U : Txt} (h : ¬ (d ≤ 16 ∧ 2 ≤ U.length ∧ begP [40] U = true)) : oneR (2 * U.length + 2) d U = none := by
 unfold oneR
 rw [if_neg h]
set_option maxHeartbeats 8000000 in
theorem rone_no (T : Txt) (hT : T.length ≤ 1000000000) (d i : Nat) (w : World) (hd : d ≤ 17) (hi : i ≤ T.length) (hc : ¬ (d ≤ 16 ∧ 2 ≤ (T.drop i).length ∧ begP [40] (T.drop i) = true)) : Calls Tryz.prog 32 #[tv T, .int .i64 (i : Int), .int .i64 (d : Int)] w fun e w' => OnQ T i d w e w' := by
 obtain ⟨W0, hW0⟩ : ∃ W0, w.alloc (.cells #[.int .i64 0, .slice none 0 0, .string ⟨#[]⟩, .string ⟨#[]⟩] 26) = W0 := ⟨_, rfl⟩
 have hk0 : Keeps [] w W0 := by rw [← hW0]; exact (Keeps.refl [] w).alloc _
 have hr0 : W0.heap[w.heap.size]? = some (.cells #[.int .i64 0, .slice none 0 0, .string ⟨#[]⟩, .string ⟨#[]⟩] 26 (0, 0)) := by rw [← hW0]; exact heap_new8 w _
 have HR0 := Lib.hid (fun X (hk : Keeps [] W0 X) => blk_keep hr0 hk (by simp))
 have HK0 := Lib.hid hk0
 have FIN : Hid (∀ (X : World), Keeps [] W0 X → oneR (2 * (T.drop i).length + 2) d (T.drop i) = none → ∀ fn : Array Value, fn.getD 6 undef = .pointer (some ⟨w.heap.size, 0, none⟩) → fn.getD 7 undef = .int .i64 (-1) →
   bodyPost Tryz.prog Tryz.f32 (fun e w' => OnQ T i d w e w') .ret ⟨fn, []⟩ ((((X.setCell ⟨w.heap.size, 0, none⟩ (.int .i64 0)).setCell ⟨w.heap.size, 1, none⟩ (.slice none 0 0)).setCell ⟨w.heap.size, 2, none⟩ (.string ⟨#[]⟩)).setCell ⟨w.heap.size, 3, none⟩ (.string ⟨#[]⟩))) := by
  intro X hX hno fn h6 h7
  have HR6' := heap_setCell_same _ w.heap.size 0 _ _ (.int .i64 0) (HR0.out X hX)
  have HR7' := heap_setCell_same _ w.heap.size 1 _ _ (.slice none 0 0) HR6'
  have HR8' := heap_setCell_same _ w.heap.size 2 _ _ (.string ⟨#[]⟩) HR7'
  have hrow := heap_setCell_same _ w.heap.size 3 _ _ (.string ⟨#[]⟩) HR8'
  refine bodyPost_ret (results_fil_tmp rfl _ _ w.heap.size _ (0, 0) h6 rfl hrow) rfl ⟨fun t R ht => (by rw [hno] at ht; cases ht), fun _ => by rw [h7]; rfl, ?_⟩
  exact (((((HK0.out.trans' hX).setCell (.inr (Nat.le_refl _)) _).setCell (.inr (Nat.le_refl _)) _).setCell (.inr (Nat.le_refl _)) _).setCell (.inr (Nat.le_refl _)) _)
 obtain ⟨c0, c1, c2, c3⟩ := (four_facts8 hr0).1
 obtain ⟨f0, f1, f2, f3⟩ := (four_facts8 hr0).2
 obtain ⟨n, hn⟩ : ∃ n, T.length = n := ⟨_, rfl⟩
 have hsz : (⟨T.toArray⟩ : ByteArray).size = n := hn
 have HN := Lib.hid hn
 rw [hn] at hT hi
 clear hn hk0 hr0
 unfold tv at *
 have HNO := Lib.hid (oneR_no hc)
 have hi0 : (0 : Int) ≤ (i : Int) := by omega
 by_cases hd2 : d ≤ 16
 ·have hdi : ¬ (16 : Int) < (d : Int) := by omega
  by_cases hi2 : i + 1 < n
  ·have hii : ¬ (n : Int) ≤ (i : Int) + 1 := by omega
   have hin : (i : Int) < (n : Int) := by omega
   obtain ⟨u, hu⟩ : ∃ u, T[i]? = some u := ⟨_, List.getElem?_eq_getElem (by have := HN.out; omega)⟩
   have hat := str_at T i u hu
   have h40 : ¬ u = 40 := fun h => hc ⟨hd2, by have := HN.out; simp; omega, by
    obtain ⟨hj, h9⟩ := List.getElem?_eq_some_iff.1 hu
    rw [List.drop_eq_getElem_cons hj, h9, h]; simp [begP]⟩
   have h40i : ¬ (u.toNat : Int) = 40 := fun h => h40 (UInt8.toNat_inj.1 (by show u.toNat = 40; omega))
   have h40b : ((u.toNat : Int) == 40) = false := by simpa using h40i
   have h40n : ((u.toNat : Int) != 40) = true := by simpa using h40i
   have hul : u.toNat < 256 := u.toNat_lt
   go_enter Tryz.func32, Tryz.ntmps32
   go_wp2_with fail
   exact FIN.out W0 (Keeps.refl _ _) HNO.out _ rfl rfl
  ·have hii : (n : Int) ≤ (i : Int) + 1 := by omega
   go_enter Tryz.func32, Tryz.ntmps32
   go_wp2_with fail
   exact FIN.out W0 (Keeps.refl _ _) HNO.out _ rfl rfl
 ·have hdi : (16 : Int) < (d : Int) := by omega
  go_enter Tryz.func32, Tryz.ntmps32
  go_wp2_with fail
  exact FIN.out W0 (Keeps.refl _ _) HNO.out _ rfl rfl
end Go.Proofs.YtbfebljahjmjfaaGreatDoor
/- filter: what the walk of the document's one asks of its words. -/
namespace Go.Proofs.YtbfebljahjmjfaaGreatDoor
open Go.RowKit Go.Shelf
set_option linter.unusedVariables false
set_option linter.unusedSimpArgs false
set_option maxRecDepth 100000

/-- What value leaves begins with ')' or '*', and is the text's own end. -/
theorem valR_tail : ∀ (f : Nat) (T v R : Txt), valR f T = some (v, R) → (∃ u r, R = u :: r ∧ (u = 41 ∨ u = 42)) ∧ ∃ p, T = p ++ R
 | f, [], v, R, h => by cases f <;> simp [valR] at h
 | 0, c :: l, v, R, h => by simp [valR] at h
 | f + 1, c :: l, v, R, h => by
  unfold valR at h
  split at h
  ·rename_i hc
   injection h with h; injection h with h1 h2; subst h2
   exact ⟨⟨c, l, rfl, hc⟩, [], rfl⟩
  ·split at h
   ·cases h
   ·split at h
    ·split at h
     ·split at h
      ·obtain ⟨p, hp, h⟩ := Option.map_eq_some_iff.1 h
       injection h with h1 h2
       subst h2
       obtain ⟨h3, q, h4⟩ := valR_tail f _ p.1 p.2 hp
       exact ⟨h3, c :: _ :: _ :: q, by rw [h4]; rfl⟩
      ·cases h
     ·cases h
    ·obtain ⟨p, hp, h⟩ := Option.map_eq_some_iff.1 h
     injection h with h1 h2
     subst h2
     obtain ⟨h3, q, h4⟩ := valR_tail f _ p.1 p.2 hp
     exact ⟨h3, c :: q, by rw [h4]; rfl⟩
theorem drop_end {T p R : Txt} (h : T = p ++ R) : R = T.drop (T.length - R.length) := by
 subst h
 simp
theorem unt_step {T : Txt} {j : Nat} {u : UInt8} (h : T[j]? = some u) (hu : ¬ u = 61) : untP [61] (T.drop j) = (untP [61] (T.drop (j + 1))).map (· + 1) := by
 obtain ⟨hj, h9⟩ := List.getElem?_eq_some_iff.1 h
 rw [List.drop_eq_getElem_cons hj, h9]
 conv => lhs; unfold untP
 rw [if_neg (by simpa using hu)]
theorem unt_at {T : Txt} {j : Nat} (h : T[j]? = some 61) : untP [61] (T.drop j) = some 0 := by
 obtain ⟨hj, h9⟩ := List.getElem?_eq_some_iff.1 h
 rw [List.drop_eq_getElem_cons hj, h9]
 unfold untP
 rw [if_pos (by simp)]
theorem oneR_leaf {d : Nat} {T : Txt} (hd : d ≤ 16) (h2 : 2 ≤ T.length) (h40 : begP [40] T = true) (hs : sgnR (T.drop 1) = 0) : oneR (2 * T.length + 2) d T = match leafR (T.drop 1) with
   | none => none
   | some (k, s, v, R) => shutR (.mk k [] s v) R := by
 conv => lhs; unfold oneR
 rw [if_pos ⟨hd, h2, h40⟩, if_pos hs]
 cases leafR (T.drop 1) <;> rfl
theorem oneR_sign {d : Nat} {T : Txt} (hd : d ≤ 16) (h2 : 2 ≤ T.length) (h40 : begP [40] T = true) (hs : ¬ sgnR (T.drop 1) = 0) : oneR (2 * T.length + 2) d T = match manyR (2 * (T.drop 2).length + 1) d 0 (T.drop 2) with
   | none => none
   | some (l, R) => shutR (.mk (sgnR (T.drop 1) : Nat) l [] []) R := by
 conv => lhs; unfold oneR
 rw [if_pos ⟨hd, h2, h40⟩, if_neg hs, manyR_fuel (2 * T.length + 1) (2 * (T.drop 2).length + 1) d 0 (T.drop 2) (by simp; omega) (by omega)]
 cases manyR (2 * (T.drop 2).length + 1) d 0 (T.drop 2) <;> rfl
/-- One more of many. -/
theorem manyR_more {d m : Nat} {T R : Txt} {x : FV} (h40 : begP [40] T = true) (ho : oneR (2 * T.length + 2) (d + 1) T = some (x, R)) (hm : m ≤ 200) : manyR (2 * T.length + 1) d m T = (manyR (2 * R.length + 1) d (m + 1) R).map (fun p => (x :: p.1, p.2)) := by
 have hlen := oneR_len _ _ _ _ _ ho
 conv => lhs; unfold manyR
 rw [if_pos h40, oneR_fuel (2 * T.length) (2 * T.length + 2) (d + 1) T (by omega) (by omega), ho]
 dsimp only
 rw [if_neg (by omega), manyR_fuel (2 * T.length) (2 * R.length + 1) d (m + 1) R (by omega) (by omega)]
 cases manyR (2 * R.length + 1) d (m + 1) R <;> rfl
theorem manyR_stop {d m : Nat} {T : Txt} (h40 : ¬ begP [40] T = true) : manyR (2 * T.length + 1) d m T = some ([], T) := by
 unfold manyR
 rw [if_neg h40]
theorem manyR_bad {d m : Nat} {T : Txt} (h40 : begP [40] T = true) (ho : oneR (2 * T.length + 2) (d + 1) T = none ∨ 200 < m) : manyR (2 * T.length + 1) d m T = none := by
 unfold manyR
 rw [if_pos h40, oneR_fuel (2 * T.length) (2 * T.length + 2) (d + 1) T (by omega) (by omega)]
 rcases ho with ho | ho
 ·rw [ho]
 ·cases oneR (2 * T.length + 2) (d + 1) T with
  | none => rfl
  | some p => dsimp only; rw [if_pos ho]
end Go.Proofs.YtbfebljahjmjfaaGreatDoor
