/- Texts of one proof, laid together: U50 U51. -/
import Derived.Test.YthgpjlmdllihmaaGreatM37
import Derived.Test.YthgpjlmdllihmaaGreatM32
/- The document's Behind, Right, Weight. -/
namespace Go.Proofs.YthgpjlmdllihmaaGreat
open Go.RowKit Go.Shelf Go.Maps
set_option linter.unusedVariables false
set_option linter.unusedSimpArgs false
set_option maxRecDepth 100000

theorem mem_tins' {x y : List UInt8 × List UInt8} {T : Tab} (h : y ∈ tins x T) : y = x ∨ y ∈ T := mem_tins h
theorem rising_tins {x : List UInt8 × List UInt8} : ∀ {T : Tab}, Rising T → (∀ q ∈ T, q.1 ≠ x.1) → Rising (tins x T)
  | [], _, _ => by simp [tins, Rising]
  | y :: r, hT, hx => by
    obtain ⟨h1, h2⟩ := List.pairwise_cons.1 hT
    cases hb : bytesBefore x.1 y.1
    · rw [tins_skip hb]
      refine List.pairwise_cons.2 ⟨fun q hq => ?_, rising_tins h2 (fun q hq => hx q (List.mem_cons_of_mem _ hq))⟩
      rcases mem_tins hq with rfl | hq
      · rcases WideAt.bytes_total y.1 q.1 (hx y (by simp)) with h | h
        · exact h
        · rw [hb] at h; cases h
      · exact h1 q hq
    · unfold tins
      rw [if_pos hb]
      refine List.pairwise_cons.2 ⟨fun q hq => ?_, hT⟩
      rcases List.mem_cons.1 hq with rfl | hq
      · exact hb
      · exact WideShapes.bytes_trans _ _ _ hb (h1 q hq)
theorem rising_chg {T : Tab} (hT : Rising T) (x : Chg) : Rising (chgT T x) := by
  unfold chgT
  split
  · exact List.Pairwise.filter _ hT
  · unfold tput
    refine rising_tins (List.Pairwise.filter _ hT) (fun q hq => ?_)
    have := (List.mem_filter.1 hq).2
    simpa using this
theorem rising_behind {l : List Chg} : ∀ {T : Tab}, Rising T → Rising (behindT T l) := by
  induction l with
  | nil => intro T h; exact h
  | cons x r ih => intro T h; exact ih (rising_chg h x)

theorem rbehind_is (A : Option Addr) (n c : Nat) (T : Tab) (B : Option Addr) (m d : Nat) (l : List Chg) (w : World) (hA : PrsAt w A n T) (hB : ChgsAt w B m l) (hn : n ≤ 10000) (hm : m ≤ 1000) (hT : Rising T) :
    Calls Tryz.prog 16 #[.slice A n c, .slice B m d] w fun e w' => ∃ A' n' c', e = .returned (.slice A' n' c') ∧ PrsAt w' A' n' (behindT T l) ∧ (A' = A ∧ behindT T l = T ∨ ∀ a, A' = some a → w.heap.size ≤ a.block) ∧ Keeps [] w w' := by
  have hlB := hB.len
  have hlA := hA.len
  have HA := Lib.hid hA
  have HB := Lib.hid hB
  have HT := Lib.hid hT
  clear hA hB hT
  go_enter Tryz.func16, Tryz.ntmps16
  go_wp2_with fail
  go_loopw [0, 5] (fun tv i wr => ∃ (j : Nat) (A' : Option Addr) (n' c' : Nat), i = .int .i64 (j : Int) ∧ j ≤ m ∧ tv = .slice A' n' c' ∧ n' ≤ 10000 + j ∧ Hid (PrsAt wr A' n' (behindT T (l.take j))) ∧ Hid (A' = A ∧ behindT T (l.take j) = T ∨ ∀ a, A' = some a → w.heap.size ≤ a.block) ∧ Hid (Keeps [] w wr)) (fun _ i _ => m - (intOf i).toNat)
  case atStart => exact ⟨0, A, n, c, rfl, Nat.zero_le _, rfl, by omega, HA.out, .inl ⟨rfl, rfl⟩, Keeps.refl _ _⟩
  case round =>
    obtain ⟨j, A', n', c', rfl, hj, rfl, hn', HP, HE, HK⟩ := hrel
    by_cases hlt : j < m
    · have hx : l[j]? = some (l[j]'(by omega)) := List.getElem?_eq_getElem (by omega)
      obtain ⟨b, o, rfl, ho⟩ := (HB.out.grow HK.out).at_ j _ hx
      have htk : l.take (j + 1) = l.take j ++ [l[j]'(by omega)] := List.take_succ_eq_append_getElem (by omega)
      generalize l[j]'(by omega) = x at *
      have c0 := ho.c0
      have c1 := ho.c1
      have c2 := ho.c2
      have HT2 : Hid (behindT T (l.take (j + 1)) = chgT (behindT T (l.take j)) x) := by show _ = _; rw [htk, behindT_snoc]
      have HR := Lib.hid (rising_behind (l := l.take j) HT.out)
      have HS := Lib.hid (rset_is A' n' c' _ x wr HP.out (by omega))
      have hl2 := HP.out.len
      have hcl := chgT_len (behindT T (l.take j)) x
      clear ho hx htk
      go_wp2_with (go_at_call 33; refine HS.out.mono ?_; rintro e w2 ⟨Q, qm, qd, rfl, hown, hqm, hk⟩; have HO2 := Lib.hid hown; have HK2 := Lib.hid hk; have HQM := Lib.hid hqm; clear hown hk hqm)
      have h2 := HO2.out
      have hq2 := HQM.out
      rw [set_is_chg _ _ HR.out] at h2 hq2
      have HP2 := Lib.hid (prs_of_own h2 hq2.symm)
      rw [← HT2.out] at HP2
      clear h2
      go_roundw
      case rel => exact ⟨j + 1, Q, qm, qd, by go_num, by omega, rfl, by omega, HP2, .inr (fun a ha => by subst ha; have h1 := (HO2.out.lt _ rfl).1; have h2 := HK.out.size; omega), HK.out.trans' HK2.out⟩
      case measure => simp [intOf]; omega
    · obtain rfl : j = m := by omega
      have htl : l.take j = l := List.take_of_length_le (by omega)
      rw [htl] at HP HE
      go_wp2_with fail
      go_ret
      exact ⟨A', n', c', rfl, HP.out, HE.out, HK.out⟩

end Go.Proofs.YthgpjlmdllihmaaGreat
/- The document's Right. -/
namespace Go.Proofs.YthgpjlmdllihmaaGreat
open Go.RowKit Go.Shelf Go.Maps
set_option linter.unusedVariables false
set_option linter.unusedSimpArgs false
set_option maxRecDepth 100000

theorem not_ok_all {l : List Chg} {x : Chg} (hm : x ∈ l) (h : x.ok = false) : chgsOk l = false := by
  have : l.all Chg.ok = false := by rw [List.all_eq_false]; exact ⟨x, hm, by simp [h]⟩
  simp [chgsOk, this]

end Go.Proofs.YthgpjlmdllihmaaGreat
