/- Texts of one proof, laid together: Y10 Y11. -/
import Derived.Test.YtebocagkpkpghaaGreatDoorMA3
import Derived.BigQuiet
import Derived.Lib.ItoaLen
/- entry: the document's number; walked. -/
namespace Go.Proofs.YtebocagkpkpghaaGreatDoor
open Go.RowKit Go.Shelf
set_option linter.unusedVariables false
set_option linter.unusedSimpArgs false
set_option maxRecDepth 100000

def isD (c : UInt8) : Bool := decide (48 ≤ c.toNat) && decide (c.toNat ≤ 57)
def digN (l : Txt) : Nat := l.foldl (fun a c => 10 * a + (c.toNat - 48)) 0
/-- The document's number, as words. -/
def numD (most : Nat) (T : Txt) : Nat :=
  if T.length < 1 then 0 else if 4 < T.length then 0 else if T.all isD = false then 0 else if T.head? = some 48 then 0 else if most < digN T then 0 else digN T
theorem digN_snoc (l : Txt) (c : UInt8) : digN (l ++ [c]) = 10 * digN l + (c.toNat - 48) := by simp [digN]
theorem digN_lt {T : Txt} : ∀ j, j ≤ T.length → (T.take j).all isD = true → digN (T.take j) < 10 ^ j
  | 0, _, _ => by simp [digN]
  | j + 1, hj, h => by
    obtain ⟨u, hu⟩ : ∃ u, T[j]? = some u := ⟨_, List.getElem?_eq_getElem (by omega)⟩
    rw [List.take_add_one, hu] at h ⊢
    simp only [Option.toList_some, List.all_append, List.all_cons, List.all_nil, Bool.and_true, Bool.and_eq_true] at h
    have h1 := digN_lt j (by omega) h.1
    have h2 := h.2
    unfold isD at h2
    simp at h2
    show digN (T.take j ++ [u]) < _
    rw [digN_snoc, Nat.pow_succ]
    omega
set_option maxHeartbeats 4000000 in
theorem rnumd_is (T : Txt) (most : Nat) (w : World) (hT : T.length ≤ 1000000000) (hm : most ≤ 100000) :
    Calls Tryz.prog 60 #[tv T, .int .i64 (most : Int)] w fun e w' => e = .returned (.int .i64 (numD most T : Int)) ∧ Keeps [] w w' := by
  obtain ⟨P, hP⟩ : ∃ P, numD most T = P := ⟨_, rfl⟩
  have HP := Lib.hid hP
  rw [hP]
  clear hP
  obtain ⟨n, hn⟩ : ∃ n, T.length = n := ⟨_, rfl⟩
  have HN := Lib.hid hn
  rw [hn] at hT
  have hls : (⟨T.toArray⟩ : ByteArray).size = n := hn
  clear hn
  unfold tv
  by_cases h1 : n < 1
  · have h1i : (n : Int) < 1 := by omega
    have HC : Hid (P = 0) := by show _ = _; rw [← HP.out]; unfold numD; rw [if_pos (by rw [HN.out]; exact h1)]
    go_enter Tryz.func60, Tryz.ntmps60
    go_wp2_with fail
    go_ret
    rw [HC.out]
    exact ⟨rfl, Keeps.refl _ _⟩
  have h1i : ¬ (n : Int) < 1 := by omega
  by_cases h4 : 4 < n
  · have h4i : (4 : Int) < (n : Int) := by omega
    have HC : Hid (P = 0) := by show _ = _; rw [← HP.out]; unfold numD; rw [if_neg (by rw [HN.out]; exact h1), if_pos (by rw [HN.out]; exact h4)]
    go_enter Tryz.func60, Tryz.ntmps60
    go_wp2_with fail
    go_ret
    rw [HC.out]
    exact ⟨rfl, Keeps.refl _ _⟩
  have h4i : ¬ (4 : Int) < (n : Int) := by omega
  have HP2 : Hid ((if T.all isD = false then 0 else if T.head? = some 48 then 0 else if most < digN T then 0 else digN T) = P) := by
    have h9 := HP.out
    unfold numD at h9
    rw [if_neg (by rw [HN.out]; exact h1), if_neg (by rw [HN.out]; exact h4)] at h9
    exact h9
  clear HP
  go_enter Tryz.func60, Tryz.ntmps60
  go_wp2_with fail
  go_loopw [5, 6] (fun d i wr => ∃ j : Nat, d = .int .i64 (digN (T.take j) : Int) ∧ i = .int .i64 (j : Int) ∧ j ≤ n ∧ Hid ((T.take j).all isD = true) ∧ Hid (Keeps [] w wr)) (fun _ i _ => n - (intOf i).toNat)
  case atStart => exact ⟨0, rfl, rfl, Nat.zero_le _, rfl, Keeps.refl _ _⟩
  case round =>
    obtain ⟨j, rfl, rfl, hj, HA, HKR⟩ := hrel
    have hb9 := digN_lt j (by rw [HN.out]; exact hj) HA.out
    have hb8 : 10 ^ j ≤ 10 ^ 4 := Nat.pow_le_pow_right (by decide) (by omega)
    have hb : digN (T.take j) < 10000 := Nat.lt_of_lt_of_le hb9 hb8
    clear hb9 hb8
    by_cases hlt : j < n
    · obtain ⟨u, hu⟩ : ∃ u, T[j]? = some u := ⟨_, List.getElem?_eq_getElem (by have := HN.out; omega)⟩
      have hix := str_at T j u hu
      have HU := Lib.hid hu
      have HT1 : Hid (T.take (j + 1) = T.take j ++ [u]) := by show _ = _; rw [List.take_add_one, hu]; rfl
      have hji : (j : Int) < (n : Int) := by omega
      have hj0 : (0 : Int) ≤ (j : Int) := by omega
      have hul : u.toNat < 256 := u.toNat_lt
      clear hu
      have HNO : Hid (isD u = false → P = 0) := fun h => by
        rw [← HP2.out, if_pos]
        rw [List.all_eq_false]
        exact ⟨u, List.mem_of_getElem? HU.out, by rw [h]; simp⟩
      by_cases hu1 : u.toNat < 48
      · have HC : Hid (P = 0) := HNO.out (by unfold isD; simp; omega)
        have hu1i : (u.toNat : Int) < 48 := by omega
        clear HNO
        go_wp2_with fail
        go_ret
        rw [HC.out]
        exact ⟨rfl, HKR.out⟩
      by_cases hu2 : 57 < u.toNat
      · have HC : Hid (P = 0) := HNO.out (by unfold isD; simp; omega)
        have hu1i : ¬ (u.toNat : Int) < 48 := by omega
        have hu2i : (57 : Int) < (u.toNat : Int) := by omega
        clear HNO
        go_wp2_with fail
        go_ret
        rw [HC.out]
        exact ⟨rfl, HKR.out⟩
      have hu1i : ¬ (u.toNat : Int) < 48 := by omega
      have hu2i : ¬ (57 : Int) < (u.toNat : Int) := by omega
      have HB : Hid ((T.take (j + 1)).all isD = true) := by
        show _ = _
        rw [HT1.out, List.all_append, HA.out]
        unfold isD
        simp
        omega
      have HD : Hid (((digN (T.take (j + 1)) : Nat) : Int) = 10 * (digN (T.take j) : Int) + (u.toNat : Int) - 48) := by
        show _ = _
        rw [HT1.out, digN_snoc]
        omega
      generalize digN (T.take j) = d at hb HD ⊢
      clear HNO
      go_wp2_with fail
      go_roundw
      case rel => exact ⟨j + 1, by rw [HD.out], by go_num, by omega, HB.out, HKR.out⟩
      case measure => simp [intOf]; omega
    · obtain rfl : j = n := by omega
      have h9 := HA.out
      rw [List.take_of_length_le (by rw [HN.out]; exact Nat.le_refl _)] at h9 hb ⊢
      have hp := HP2.out
      rw [h9, if_neg (by simp)] at hp
      have HP3 := Lib.hid hp
      clear hp h9 HA HP2
      obtain ⟨u, hu⟩ : ∃ u, T[0]? = some u := ⟨_, List.getElem?_eq_getElem (by have := HN.out; omega)⟩
      have hix : ∀ W : World, (Instr.index 9 (.string ⟨T.toArray⟩) (.int .i64 0)).run Tryz.prog W = .ok (.int .u8 (u.toNat : Int)) W := fun W => str_at T 0 u hu W
      have HH : Hid (T.head? = some u) := by show _ = _; rw [List.head?_eq_getElem?]; exact hu
      have hul : u.toNat < 256 := u.toNat_lt
      clear hu
      generalize digN T = d at hb HP3 ⊢
      by_cases hz : u = 48
      · have HC : Hid (P = 0) := by show _ = _; rw [← HP3.out, if_pos (by rw [HH.out, hz])]
        subst hz
        go_wp2_with fail
        go_ret
        rw [HC.out]
        exact ⟨rfl, HKR.out⟩
      have hz1 : ¬ u.toNat = 48 := fun e => hz (UInt8.toNat_inj.1 e)
      have hz2 : ¬ (u.toNat : Int) = 48 := by omega
      have hz3 : ((u.toNat : Int) == 48) = false := by rw [beq_eq_false_iff_ne]; exact hz2
      have hp := HP3.out
      rw [HH.out, if_neg (by simpa using hz)] at hp
      have HP4 := Lib.hid hp
      clear hp HP3 hz
      by_cases hg : most < d
      · have HC : Hid (P = 0) := by show _ = _; rw [← HP4.out, if_pos hg]
        have hgi : (most : Int) < (d : Int) := by omega
        go_wp2_with fail
        go_ret
        rw [HC.out]
        exact ⟨rfl, HKR.out⟩
      · have HC : Hid (P = d) := by show _ = _; rw [← HP4.out, if_neg hg]
        have hgi : ¬ (most : Int) < (d : Int) := by omega
        go_wp2_with fail
        go_ret
        rw [HC.out]
        exact ⟨rfl, HKR.out⟩
end Go.Proofs.YtebocagkpkpghaaGreatDoor
/- entry: the document's Number; walked. -/
namespace Go.Proofs.YtebocagkpkpghaaGreatDoor
open Go.RowKit Go.Shelf
set_option linter.unusedVariables false
set_option linter.unusedSimpArgs false
set_option maxRecDepth 100000

theorem dec_small {m : Nat} (h : m / 10 = 0) : Lib.decDigits m = [UInt8.ofNat (48 + m % 10)] := by
  rw [Lib.decDigits_one (by omega), show m % 10 = m by omega]
theorem dec_big {m : Nat} (h : ¬ m / 10 = 0) : Lib.decDigits m = Lib.decDigits (m / 10) ++ [UInt8.ofNat (48 + m % 10)] := by
  rw [Lib.decDigits, dif_neg (by omega)]
theorem one_byte (w : World) (d : UInt8) : BytesAt (w.alloc (.cells #[.int .u8 (d.toNat : Int)] 5)) (.slice (some ⟨w.heap.size, 0, none⟩) 1 1) [d] := by
  refine ⟨some ⟨w.heap.size, 0, none⟩, 1, rfl, Nat.le_refl _, by unfold maxLen; omega, fun _ => ⟨w.heap.size, 0, rfl, fun i u hu => ?_⟩⟩
  rw [Nat.zero_add, World.cell?_alloc_new]
  cases i with
  | zero =>
    simp at hu
    subst hu
    rfl
  | succ i => simp at hu
theorem cat_is7 (a b : List UInt8) (h : a.length + b.length ≤ 9223372036854775807) (W : World) : (Op.stringOp .add ⟨a.toArray⟩ ⟨b.toArray⟩).run Tryz.prog W = .ok (.string ⟨(a ++ b).toArray⟩) W := by
  have e : (⟨(a ++ b).toArray⟩ : ByteArray) = ⟨a.toArray⟩ ++ ⟨b.toArray⟩ := by
    apply ByteArray.ext
    simp
  rw [e]
  refine run_string_add_sum W _ _ ?_
  exact h
set_option maxHeartbeats 4000000 in
theorem rnumt_is (n : Nat) (w : World) (hn : n ≤ 1000000) :
    Calls Tryz.prog 58 #[.int .i64 (n : Int)] w fun e w' => e = .returned (tv (Lib.itoa (n : Int))) ∧ Keeps [] w w' := by
  rw [show Lib.itoa (n : Int) = Lib.decDigits n by unfold Lib.itoa; rw [if_neg (by omega)]; simp]
  unfold tv
  go_enter Tryz.func58, Tryz.ntmps58
  go_wp2_with fail
  go_loopw [0, 3] (fun i d wr => ∃ (m : Nat) (t : Txt), i = .int .i64 (m : Int) ∧ d = .string ⟨t.toArray⟩ ∧ m ≤ 1000000 ∧ Hid (Lib.decDigits n = Lib.decDigits m ++ t) ∧ Hid (Keeps [] w wr)) (fun i _ _ => (intOf i).toNat)
  case atStart => exact ⟨n, [], rfl, rfl, hn, by simp [Hid], Keeps.refl _ _⟩
  case round =>
    obtain ⟨m, t, rfl, rfl, hm, HD, HKR⟩ := hrel
    have htl : t.length ≤ 100 := by
      have h1 := congrArg List.length HD.out
      have h2 := Lib.itoa_length_le (n : Int) (by omega) (by omega)
      rw [show Lib.itoa (n : Int) = Lib.decDigits n by unfold Lib.itoa; rw [if_neg (by omega)]; simp] at h2
      simp at h1
      omega
    obtain ⟨d, hd⟩ : ∃ d, UInt8.ofNat (48 + m % 10) = d := ⟨_, rfl⟩
    have hdn : ((d.toNat : Nat) : Int) = 48 + (m : Int) % 10 := by
      rw [← hd]
      simp
      omega
    have hcat := cat_is7 [d] t (by simp; omega)
    have hcv := conv_bytes (one_byte wr d)
    rw [hdn] at hcv
    have HK : Hid (Keeps [] wr (wr.alloc (.cells #[.int .u8 (48 + (m : Int) % 10)] 5))) := (Keeps.refl [] wr).alloc _
    have hw1 : (48 + (m : Int) % 10) % 256 = 48 + (m : Int) % 10 := by omega
    have HDD := Lib.hid hd
    clear hd hdn
    by_cases hq : m / 10 = 0
    · have hqi : (m : Int) / 10 = 0 := by omega
      have hds := dec_small hq
      rw [HDD.out] at hds
      have HE : Hid (Lib.decDigits n = d :: t) := by show _ = _; rw [HD.out, hds]; rfl
      clear hds hq
      go_wp2_with fail
      go_ret
      rw [HE.out]
      exact ⟨rfl, HKR.out.trans' HK.out⟩
    · have hqi : ¬ (m : Int) / 10 = 0 := by omega
      have hqb : ((m : Int) / 10 == 0) = false := by rw [beq_eq_false_iff_ne]; exact hqi
      have hds := dec_big hq
      rw [HDD.out] at hds
      have HE : Hid (Lib.decDigits n = Lib.decDigits (m / 10) ++ (d :: t)) := by show _ = _; rw [HD.out, hds]; simp
      clear hds
      go_wp2_with fail
      go_roundw
      case rel => exact ⟨m / 10, d :: t, by go_num, rfl, by omega, HE.out, HKR.out.trans' HK.out⟩
      case measure => simp [intOf]; omega
end Go.Proofs.YtebocagkpkpghaaGreatDoor
