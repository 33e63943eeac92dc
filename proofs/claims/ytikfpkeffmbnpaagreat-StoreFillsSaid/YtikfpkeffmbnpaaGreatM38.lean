/- Texts of one proof, laid together: U50 U51. -/
import Derived.Test.YtikfpkeffmbnpaaGreatM37
import Derived.Test.YtikfpkeffmbnpaaGreatM32
/- The document's Behind, Right, Weight. -/
namespace Go.Proofs.YtikfpkeffmbnpaaGreat
open Go.RowKit Go.Shelf Go.Maps
set_option linter.unusedVariables false
set_option linter.unusedSimpArgs false
set_option maxRecDepth 100000

theorem mem_tins' {x y : List UInt8 × List UInt8} {T : Tab} (h : y ∈ tins x T) : y = x ∨ y ∈ T := mem_tins h
theorem rising_tins {x : List UInt8 × List UInt8} : ∀ {T : Tab}, Rising T → (∀ q ∈ T, q.1 ≠ x.1) → Rising (tins x T)
  | [], _, _ => by simp [tins, Rising]
  | y :: r, hT, hx => by
    obtain ⟨h1, h2⟩ := List.pairwise_cons.1 hT
    cases hb : bytesBefore x.1 y.1
    · rw [tins_skip hb]
      refine List.pairwise_cons.2 ⟨fun q hq => ?_, rising_tins h2 (fun q hq => hx q (List.mem_cons_of_mem _ hq))⟩
      rcases mem_tins hq with rfl | hq
      · rcases WideAt.bytes_total y.1 q.1 (hx y (by simp)) with h | h
        · exact h
        · rw [hb] at h; cases h
      · exact h1 q hq
    · unfold tins
      rw [if_pos hb]
      refine List.pairwise_cons.2 ⟨fun q hq => ?_, hT⟩
      rcases List.mem_cons.1 hq with rfl | hq
      · exact hb
      · exact WideShapes.bytes_trans _ _ _ hb (h1 q hq)
theorem rising_chg {T : Tab} (hT : Rising T) (x : Chg) : Rising (chgT T x) := by
  unfold chgT
  split
  · exact List.Pairwise.filter _ hT
  · unfold tput
    refine rising_tins (List.Pairwise.filter _ hT) (fun q hq => ?_)
    have := (List.mem_filter.1 hq).2
    simpa using this
theorem rising_behind {l : List Chg} : ∀ {T : Tab}, Rising T → Rising (behindT T l) := by
  induction l with
  | nil => intro T h; exact h
  | cons x r ih => intro T h; exact ih (rising_chg h x)

theorem rbehind_is (A : Option Addr) (n c : Nat) (T : Tab) (B : Option Addr) (m d : Nat) (l : List Chg) (w : World) (hA : PrsAt w A n T) (hB : ChgsAt w B m l) (hn : n ≤ 10000) (hm : m ≤ 1000) (hT : Rising T) :
    Calls Tryz.prog 25 #[.slice A n c, .slice B m d] w fun e w' => ∃ A' n' c', e = .returned (.slice A' n' c') ∧ PrsAt w' A' n' (behindT T l) ∧ (A' = A ∧ behindT T l = T ∨ ∀ a, A' = some a → w.heap.size ≤ a.block) ∧ Keeps [] w w' := by
  have hlB := hB.len
  have hlA := hA.len
  have HA := Lib.hid hA
  have HB := Lib.hid hB
  have HT := Lib.hid hT
  clear hA hB hT
  go_enter Tryz.func25, Tryz.ntmps25
  go_wp2_with fail
  go_loopw [0, 5] (fun tv i wr => ∃ (j : Nat) (A' : Option Addr) (n' c' : Nat), i = .int .i64 (j : Int) ∧ j ≤ m ∧ tv = .slice A' n' c' ∧ n' ≤ 10000 + j ∧ Hid (PrsAt wr A' n' (behindT T (l.take j))) ∧ Hid (A' = A ∧ behindT T (l.take j) = T ∨ ∀ a, A' = some a → w.heap.size ≤ a.block) ∧ Hid (Keeps [] w wr)) (fun _ i _ => m - (intOf i).toNat)
  case atStart => exact ⟨0, A, n, c, rfl, Nat.zero_le _, rfl, by omega, HA.out, .inl ⟨rfl, rfl⟩, Keeps.refl _ _⟩
  case round =>
    obtain ⟨j, A', n', c', rfl, hj, rfl, hn', HP, HE, HK⟩ := hrel
    by_cases hlt : j < m
    · have hx : l[j]? = some (l[j]'(by omega)) := List.getElem?_eq_getElem (by omega)
      obtain ⟨b, o, rfl, ho⟩ := (HB.out.grow HK.out).at_ j _ hx
      have htk : l.take (j + 1) = l.take j ++ [l[j]'(by omega)] := List.take_succ_eq_append_getElem (by omega)
      generalize l[j]'(by omega) = x at *
      have c0 := ho.c0
      have c1 := ho.c1
      have c2 := ho.c2
      have HT2 : Hid (behindT T (l.take (j + 1)) = chgT (behindT T (l.take j)) x) := by show _ = _; rw [htk, behindT_snoc]
      have HR := Lib.hid (rising_behind (l := l.take j) HT.out)
      have HS := Lib.hid (rset_is A' n' c' _ x wr HP.out (by omega))
      have hl2 := HP.out.len
      have hcl := chgT_len (behindT T (l.take j)) x
      clear ho hx htk
      go_wp2_with (go_at_call 45; refine HS.out.mono ?_; rintro e w2 ⟨Q, qm, qd, rfl, hown, hqm, hk⟩; have HO2 := Lib.hid hown; have HK2 := Lib.hid hk; have HQM := Lib.hid hqm; clear hown hk hqm)
      have h2 := HO2.out
      have hq2 := HQM.out
      rw [set_is_chg _ _ HR.out] at h2 hq2
      have HP2 := Lib.hid (prs_of_own h2 hq2.symm)
      rw [← HT2.out] at HP2
      clear h2
      go_roundw
      case rel => exact ⟨j + 1, Q, qm, qd, by go_num, by omega, rfl, by omega, HP2, .inr (fun a ha => by subst ha; have h1 := (HO2.out.lt _ rfl).1; have h2 := HK.out.size; omega), HK.out.trans' HK2.out⟩
      case measure => simp [intOf]; omega
    · obtain rfl : j = m := by omega
      have htl : l.take j = l := List.take_of_length_le (by omega)
      rw [htl] at HP HE
      go_wp2_with fail
      go_ret
      exact ⟨A', n', c', rfl, HP.out, HE.out, HK.out⟩

theorem rweight_is (A : Option Addr) (n c : Nat) (T : Tab) (w : World) (hA : PrsAt w A n T) (hn : n ≤ 100000) (hw : tweight T ≤ 1000000000) :
    Calls Tryz.prog 35 #[.slice A n c] w fun e w' => e = .returned (.int .i64 (tweight T : Nat)) ∧ Keeps [] w w' := by
  have hlA := hA.len
  have HA := Lib.hid hA
  have HW := Lib.hid hw
  clear hA
  go_enter Tryz.func35, Tryz.ntmps35
  go_wp2_with fail
  go_loopw [3, 4] (fun s i wr => ∃ j : Nat, i = .int .i64 (j : Int) ∧ s = .int .i64 (tweight (T.take j) : Nat) ∧ j ≤ n ∧ Hid (Keeps [] w wr)) (fun _ i _ => n - (intOf i).toNat)
  case atStart => exact ⟨0, rfl, by simp [tweight], Nat.zero_le _, Keeps.refl _ _⟩
  case round =>
    obtain ⟨j, rfl, rfl, hj, HK⟩ := hrel
    by_cases hlt : j < n
    · have hx : T[j]? = some (T[j]'(by omega)) := List.getElem?_eq_getElem (by omega)
      obtain ⟨b, o, rfl, a1, a2⟩ := (HA.out.grow HK.out).at_ j _ hx
      have htk : T.take (j + 1) = T.take j ++ [T[j]'(by omega)] := List.take_succ_eq_append_getElem (by omega)
      have hsum : tweight T = tweight (T.take (j + 1)) + tweight (T.drop (j + 1)) := by
        unfold tweight
        rw [← List.sum_append, ← List.map_append, List.take_append_drop]
      generalize T[j]'(by omega) = p at *
      have h2 : tweight (T.take (j + 1)) = tweight (T.take j) + (16 + p.1.length + p.2.length) := by rw [htk]; simp [tweight]
      have HT2 := Lib.hid h2
      generalize tweight (T.take j) = s at *
      have hb1 : s + (16 + p.1.length + p.2.length) ≤ 1000000000 := by omega
      obtain ⟨pk, pv⟩ := p
      have hb2 : s + (16 + pk.length + pv.length) ≤ 1000000000 := hb1
      clear hx htk hsum h2 hb1
      go_wp2_with fail
      go_still_tail 15, (by kernel_rfl)
      change wpList _ _ _ _ _ wr.drew
      go_wp2_with fail
      go_roundw
      case rel => exact ⟨j + 1, by go_num, by rw [HT2.out]; go_num, by omega, HK.out.drew⟩
      case measure => simp [intOf]; omega
    · obtain rfl : j = n := by omega
      have htl : T.take j = T := List.take_of_length_le (by omega)
      rw [htl]
      go_wp2_with fail
      go_ret
      exact ⟨rfl, HK.out⟩

end Go.Proofs.YtikfpkeffmbnpaaGreat
/- The document's Right. -/
namespace Go.Proofs.YtikfpkeffmbnpaaGreat
open Go.RowKit Go.Shelf Go.Maps
set_option linter.unusedVariables false
set_option linter.unusedSimpArgs false
set_option maxRecDepth 100000

theorem not_ok_all {l : List Chg} {x : Chg} (hm : x ∈ l) (h : x.ok = false) : chgsOk l = false := by
  have : l.all Chg.ok = false := by rw [List.all_eq_false]; exact ⟨x, hm, by simp [h]⟩
  simp [chgsOk, this]

theorem rright_is (A : Option Addr) (len c : Nat) (l : List Chg) (w : World) (hl : ChgsAt w A len l) (hm : len ≤ 9223372036854775807) : Calls Tryz.prog 34 #[.slice A len c] w fun e w' => e = .returned (.bool (chgsOk l)) ∧ Keeps [] w w' := by
  have hll := hl.len
  by_cases h1 : (100 : Int) < (len : Int)
  · have hf : chgsOk l = false := by
      unfold chgsOk
      rw [hll, show decide (len ≤ 100) = false from decide_eq_false (by omega)]
      rfl
    go_enter Tryz.func34, Tryz.ntmps34
    go_wp2_with fail
    go_ret
    exact ⟨by rw [hf]; rfl, Keeps.refl _ _⟩
  have HL := Lib.hid hl
  clear hl
  have h100 : len ≤ 100 := by omega
  go_enter Tryz.func34, Tryz.ntmps34
  go_wp2_with fail
  go_loopw [3, 4] (fun s i wr => ∃ j : Nat, i = .int .i64 (j : Int) ∧ s = .int .i64 (csize (l.take j) : Nat) ∧ j ≤ len ∧ Hid ((l.take j).all Chg.ok = true) ∧ Hid (Keeps [] w wr)) (fun _ i _ => len - (intOf i).toNat)
  case atStart => exact ⟨0, rfl, by simp [csize], Nat.zero_le _, by simp [Hid], Keeps.refl _ _⟩
  case round =>
    obtain ⟨j, rfl, rfl, hj, HA, HK⟩ := hrel
    have hcs := csize_le HA.out
    have htl : (l.take j).length ≤ 100 := by rw [List.length_take]; omega
    by_cases hlt : j < len
    · have hx : l[j]? = some (l[j]'(by omega)) := List.getElem?_eq_getElem (by omega)
      obtain ⟨b, o, rfl, ho⟩ := (HL.out.grow HK.out).at_ j _ hx
      have htk : l.take (j + 1) = l.take j ++ [l[j]'(by omega)] := List.take_succ_eq_append_getElem (by omega)
      have hmem : l[j]'(by omega) ∈ l := List.getElem_mem _
      generalize l[j]'(by omega) = x at *
      have c0 := ho.c0
      have c1 := ho.c1
      have c2 := ho.c2
      have lk := ho.lk
      have lv := ho.lv
      have HT := Lib.hid htk
      have HME := Lib.hid hmem
      obtain ⟨k, v, g⟩ := x
      have hlk : k.length ≤ 9223372036854775807 := lk
      have hlv : v.length ≤ 9223372036854775807 := lv
      clear ho hx htk hmem lk lv
      have bad : ∀ W : World, Chg.ok ⟨k, v, g⟩ = false → Keeps [] w W → (Ending.returned (Value.bool false) = .returned (.bool (chgsOk l))) ∧ Keeps [] w W := fun W h hk => ⟨by rw [not_ok_all HME.out h], hk⟩
      have BAD := Lib.hid bad
      clear bad
      by_cases q1 : (k.length : Int) < 1
      · have hb : Hid (Chg.ok ⟨k, v, g⟩ = false) := by
          show _ = _
          simp [Chg.ok]
          omega
        go_wp2_with fail
        go_ret
        exact BAD.out _ hb.out (HK.out.alloc _)
      by_cases q2 : (200 : Int) < (k.length : Int)
      · have hb : Hid (Chg.ok ⟨k, v, g⟩ = false) := by
          show _ = _
          simp [Chg.ok]
          omega
        go_wp2_with fail
        go_ret
        exact BAD.out _ hb.out (HK.out.alloc _)
      by_cases q3 : (8192 : Int) < (v.length : Int)
      · have hb : Hid (Chg.ok ⟨k, v, g⟩ = false) := by
          show _ = _
          simp [Chg.ok]
          omega
        go_wp2_with fail
        go_ret
        exact BAD.out _ hb.out (HK.out.alloc _)
      have HC : Hid (csize (l.take (j + 1)) = csize (l.take j) + (k.length + v.length)) := by show _ = _; rw [HT.out, csize_snoc]
      cases g
      · have HA2 : Hid ((l.take (j + 1)).all Chg.ok = true) := by
          show _ = _
          rw [HT.out, List.all_append, HA.out]
          simp [Chg.ok]
          omega
        generalize csize (l.take j) = s at *
        go_wp2_with fail
        go_roundw
        case rel => exact ⟨j + 1, by go_num, by rw [HC.out]; go_num, by omega, HA2, HK.out.alloc _⟩
        case measure => simp [intOf]; omega
      · by_cases q4 : (0 : Int) < (v.length : Int)
        · have hb : Hid (Chg.ok ⟨k, v, true⟩ = false) := by
            show _ = _
            have : v ≠ [] := fun h => by rw [h] at q4; simp at q4
            simp [Chg.ok, this]
          go_wp2_with fail
          go_ret
          exact BAD.out _ hb.out (HK.out.alloc _)
        · have HA2 : Hid ((l.take (j + 1)).all Chg.ok = true) := by
            show _ = _
            rw [HT.out, List.all_append, HA.out]
            have : v = [] := List.eq_nil_of_length_eq_zero (by omega)
            simp [Chg.ok, this]
            omega
          generalize csize (l.take j) = s at *
          go_wp2_with fail
          go_roundw
          case rel => exact ⟨j + 1, by go_num, by rw [HC.out]; go_num, by omega, HA2, HK.out.alloc _⟩
          case measure => simp [intOf]; omega
    · obtain rfl : j = len := by omega
      have htl2 : l.take j = l := List.take_of_length_le (by omega)
      rw [htl2] at HA hcs ⊢
      have HA' := HA.out
      go_wp2
      go_ret
      refine ⟨?_, HK.out⟩
      simp only [chgsOk, HA', Bool.true_and, show decide (l.length ≤ 100) = true from decide_eq_true (by omega)]
      have : decide ((csize l : Int) ≤ 16384) = decide (csize l ≤ 16384) := by
        by_cases hh : csize l ≤ 16384
        · rw [decide_eq_true hh, decide_eq_true (by omega)]
        · rw [decide_eq_false hh, decide_eq_false (by omega)]
      simpa using this

end Go.Proofs.YtikfpkeffmbnpaaGreat
