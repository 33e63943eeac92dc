/- Texts of one proof, laid together: T23. -/
import Derived.Test.YtnengckecooohaaM27
import Derived.Deep.CutBlock
import Derived.Deep.DeepCutAuto
import Derived.Deep.RegionHeld3
import Derived.StillTactics
/- ber: whole numbers of any value, and what is none. -/
namespace Go.Proofs.Ytnengckecooohaa
open Go.RowKit Go.Shelf
set_option linter.unusedVariables false
set_option linter.unusedSimpArgs false
set_option maxRecDepth 100000

set_option maxHeartbeats 16000000 in
theorem bernumbers_f (n : Int) (hn : -9223372036854775808 ≤ n ∧ n ≤ 9223372036854775807) (A : Option Addr) (m c : Nat) (xs : List UInt8) (hm : xs.length = m) (cl nu : Nat) (hcl : cl < 256) (hnu : nu < 256) (w : World) (hb : BytesAt w (.slice A m c) xs) (h63 : m ≤ 9223372036854775807) :
    Calls Try.prog 4 #[.int .i64 n, .slice A m c, .agg #[.int .u8 (cl : Int), .int .u8 (nu : Int), .bool false]] w fun e w' => e = .returned (.bool true) ∧ Below w.heap.size w w' := by
  rcases Nat.lt_or_ge 20 m with h1 | h1
  · have h2 : (20 : Int) < (m : Int) := by omega
    clear h1 h63
    go_enter Try.func4, Try.ntmps4
    go_wp2_with fail
    refine (known5_any _).mono ?_
    rintro e w1 ⟨rfl, hk⟩
    have HK := Lib.hid (((Keeps.refl [] w).alloc (.cells #[.int .u8 (cl : Int), .int .u8 (nu : Int), .bool false] 38)).trans' hk)
    clear hk
    go_wp2_with fail
    go_ret
    exact ⟨rfl, below_keeps HK.out⟩
  have h2 : ¬ (20 : Int) < (m : Int) := by omega
  have HM := Lib.hid hm
  have HB := Lib.hid hb
  have HN := Lib.hid hn
  obtain ⟨W0, hW0⟩ : ∃ W0, w.alloc (.cells #[.int .u8 (cl : Int), .int .u8 (nu : Int), .bool false] 38) = W0 := ⟨_, rfl⟩
  have hk0 : Keeps [] w W0 := by rw [← hW0]; exact (Keeps.refl [] w).alloc _
  have hr0 : W0.heap[w.heap.size]? = some (.cells #[.int .u8 (cl : Int), .int .u8 (nu : Int), .bool false] 38 (0, 0)) := by rw [← hW0]; exact heap_new8 w _
  have HT0 := Lib.hid (fun X (hk : Keeps [] W0 X) => And.intro (cell_of_blk (blk_keep hr0 hk (by simp)) 0) (And.intro (cell_of_blk (blk_keep hr0 hk (by simp)) 1) (cell_of_blk (blk_keep hr0 hk (by simp)) 2)))
  simp only [List.getElem?_toArray, List.getElem?_cons_zero, List.getElem?_cons_succ] at HT0
  have HK0 := Lib.hid hk0
  obtain ⟨fs, hfs⟩ : ∃ fs, fewB n = fs := ⟨_, rfl⟩
  obtain ⟨fl, hfl⟩ : ∃ fl, fs.length = fl := ⟨_, rfl⟩
  have hf8 : fl ≤ 8 := by rw [← hfl, ← hfs]; exact (fewB_len n).2
  have HFS := Lib.hid hfs
  have HFL := Lib.hid hfl
  have HI : Hid (∀ X, Calls Try.prog 20 #[.int .i64 n] X fun e w' => ∃ A c, e = .returned (.agg #[.int .u8 0, .int .u8 2, .bool false, .slice A fl c, .slice none 0 0]) ∧ BytesAt w' (.slice A fl c) fs ∧ Keeps [] X w') := fun X => by
    have h9 := int_is n X hn
    rw [hfs, hfl] at h9
    exact h9
  have HE : Hid (∀ X, Calls Try.prog 21 #[.int .i64 n] X fun e w' => ∃ A c, e = .returned (.agg #[.int .u8 0, .int .u8 10, .bool false, .slice A fl c, .slice none 0 0]) ∧ BytesAt w' (.slice A fl c) fs ∧ Keeps [] X w') := fun X => by
    have h9 := enum_is n X hn
    rw [hfs, hfl] at h9
    exact h9
  have HTG : Hid (∀ X A c, BytesAt X (.slice A fl c) fs → Calls Try.prog 19 #[.agg #[.int .u8 0, .int .u8 2, .bool false, .slice A fl c, .slice none 0 0], .int .u8 (cl : Int), .int .u8 (nu : Int)] X fun e w' => ∃ D d B b, e = .returned (.agg #[.int .u8 (cl : Int), .int .u8 (nu : Int), .bool false, .slice D fl d, .slice B 0 b]) ∧ (∀ (E : List Nat) Y, (∀ x ∈ E, x < X.heap.size) → Keeps E w' Y → BytesAt Y (.slice D fl d) fs) ∧ Keeps [] X w') := fun X A c hbx => by
    refine (tagged_own (.mk 0 2 false fs []) ⟨0, 2, false, A, fl, c, none, 0, 0⟩ cl nu X (BerAt.flat (by decide) (by decide) hfl hbx) (by simp [nodesB, nodesL]) (by simp [maxB, maxL]; omega) hcl hnu).mono ?_
    rintro e w' ⟨h', rfl, hB, hk⟩
    obtain ⟨e1, e2, e3, e4, e5, e6, e7, e8, e9, e10, e11⟩ := hB [] w' (by simp) (Keeps.refl _ _)
    obtain ⟨q1, q2, q3, D, ql, dd, q7, q8, q9⟩ := h'
    have e1' : q1 = cl := e1
    have e2' : q2 = nu := e2
    have e3' : q3 = false := e3
    have e6' : ql = fl := by rw [← hfl]; exact e6.symm
    have e8' : q8 = 0 := by exact e8.symm
    subst e1' e2' e3' e6' e8'
    refine ⟨D, dd, q7, q9, rfl, fun E Y hE hk => ?_, hk⟩
    obtain ⟨_, _, _, _, _, _, e7, _⟩ := hB E Y hE hk
    exact e7
  have HW : Hid (∀ X, Calls Try.prog 23 #[.int .i64 n] X fun e w' => ∃ A c, e = .returned (.slice A fl c) ∧ BytesAt w' (.slice A fl c) fs ∧ Keeps [] X w') := fun X => by
    have h9 := whole_is n X hn
    rw [hfs, hfl] at h9
    exact h9
  have HIO : Hid (∀ X D d B b, BytesAt X (.slice D fl d) fs → Calls Try.prog 22 #[.agg #[.int .u8 (cl : Int), .int .u8 (nu : Int), .bool false, .slice D fl d, .slice B 0 b]] X fun e w' => e = .returned (.tuple #[.int .i64 n, .bool true]) ∧ Keeps [] X w') := fun X D d B b hbx => by
    have h9 := intof_is cl nu false D B fl d 0 b fs X hfl hbx
    rw [← hfs, few_int n hn] at h9
    exact h9
  obtain ⟨s0, s1, s2⟩ := HT0.out W0 (Keeps.refl _ _)
  clear hfs hfl hn hm hb hk0 hr0 hf8 h1 h63
  go_enter Try.func4, Try.ntmps4
  go_upto_region 3 with fail
  go_cut [7] (fun s7 wx => ∃ g D d B b, s7 = .pointer (some ⟨g, 0, none⟩) ∧ Hid (NumAt W0 wx g cl nu fl fs D d B b))
  case first =>
    refine wp_region_held_drew (S := (fun X => X.cell? ⟨w.heap.size, 0, none⟩ = some (.int .u8 (cl : Int)) ∧ X.cell? ⟨w.heap.size, 1, none⟩ = some (.int .u8 (nu : Int)))) (by kernel_rfl) ⟨(HT0.out _ (by repeat (first | exact Keeps.refl [] _ | refine Keeps.drew ?_))).1, (HT0.out _ (by repeat (first | exact Keeps.refl [] _ | refine Keeps.drew ?_))).2.1⟩ ?_
    intro HS
    refine wpAnyH_take (i := 0) (v := .int .i64 n) rfl (by kernel_rfl) (by kernel_rfl) (by kernel_rfl) (fun _ _ _ h => h) (Or.inl ⟨by rfl, ?_⟩) HS ?_
    · intro w5 hw5
      obtain ⟨d1, d2⟩ := hw5
      go_simp
    refine wpAnyH_take (i := 2) (v := .pointer (some ⟨w.heap.size, 0, none⟩)) rfl (by kernel_rfl) (by kernel_rfl) (by kernel_rfl) (fun _ _ _ h => h) (Or.inl ⟨by rfl, ?_⟩) HS ?_
    · intro w5 hw5
      obtain ⟨d1, d2⟩ := hw5
      go_simp
    refine wpAnyH_take (i := 3) (v := .int .u8 (cl : Int)) rfl (by kernel_rfl) (by kernel_rfl) (by kernel_rfl) (fun _ _ _ h => h) (Or.inl ⟨by rfl, ?_⟩) HS ?_
    · intro w5 hw5
      obtain ⟨d1, d2⟩ := hw5
      go_simp
    refine wpAnyH_take (i := 4) (v := .pointer (some ⟨w.heap.size, 1, none⟩)) rfl (by kernel_rfl) (by kernel_rfl) (by kernel_rfl) (fun _ _ _ h => h) (Or.inl ⟨by rfl, ?_⟩) HS ?_
    · intro w5 hw5
      obtain ⟨d1, d2⟩ := hw5
      go_simp
    refine wpAnyH_take (i := 5) (v := .int .u8 (nu : Int)) rfl (by kernel_rfl) (by kernel_rfl) (by kernel_rfl) (fun _ _ _ h => h) (Or.inl ⟨by rfl, ?_⟩) HS ?_
    · intro w5 hw5
      obtain ⟨d1, d2⟩ := hw5
      go_simp
    refine wpAnyH_ready (rs := [1, 7]) (by kernel_rfl) (by simp) ?_
    refine AllReadyH.cons rfl (fun K hK => ?_) (AllReadyH.cons rfl (fun K hK => ?_) AllReadyH.nil)
    · go_simp
      refine (HI.out _).mono ?_
      rintro e w1 ⟨A1, c1, rfl, hb1, hk1⟩
      have HB1 := Lib.hid hb1
      have HK1 : Hid (Keeps [] W0 w1) := Keeps.trans' (by repeat (first | exact Keeps.refl [] _ | refine Keeps.alloc ?_ _ | refine Keeps.drew ?_)) hk1
      have HD1 := Lib.hid hk1
      clear hb1 hk1
      refine hK.out _ _ ⟨(HT0.out _ HK1.out).1, (HT0.out _ HK1.out).2.1⟩ (fun HS => ?_)
      clear hK K
      refine wpAnyH_ready (rs := [6, 7]) (by kernel_rfl) (by simp) ?_
      refine AllReadyH.cons rfl (fun K hK => ?_) (AllReadyH.cons rfl (fun K hK => ?_) AllReadyH.nil)
      · go_simp
        refine (HTG.out _ _ _ (HB1.out.grow (by repeat (first | exact Keeps.refl [] _ | refine Keeps.alloc ?_ _ | refine Keeps.drew ?_)))).mono ?_
        rintro e w2 ⟨D, dd, BB, bb, rfl, hb2, hk2⟩
        have HB2 := Lib.hid hb2
        have HK2 : Hid (Keeps [] W0 w2) := Keeps.trans' (by repeat (first | exact Keeps.refl [] _ | exact HK1.out | refine Keeps.alloc ?_ _ | refine Keeps.drew ?_)) hk2
        have HD2 := Lib.hid hk2
        clear hb2 hk2
        refine hK.out _ _ ⟨(HT0.out _ HK2.out).1, (HT0.out _ HK2.out).2.1⟩ (fun HS => ?_)
        clear hK K
        refine wpAnyH_ready (rs := [7]) (by kernel_rfl) (by simp) ?_
        refine AllReadyH.cons rfl (fun K hK => ?_) AllReadyH.nil
        go_simp
        refine hK.out _ _ ⟨(HT0.out _ (by repeat (first | exact Keeps.refl [] _ | exact HK2.out | exact HK1.out | refine Keeps.alloc ?_ _ | refine Keeps.drew ?_ | refine Keeps.setCell ?_ (.inr (by first | exact Nat.le_refl _ | exact HK1.out.size | exact HK2.out.size)) _))).1, (HT0.out _ (by repeat (first | exact Keeps.refl [] _ | exact HK2.out | exact HK1.out | refine Keeps.alloc ?_ _ | refine Keeps.drew ?_ | refine Keeps.setCell ?_ (.inr (by first | exact Nat.le_refl _ | exact HK1.out.size | exact HK2.out.size)) _))).2.1⟩ (fun HS => ?_)
        clear hK K
        refine wpAnyH_ready (rs := [8]) (by kernel_rfl) (by simp) ?_
        refine AllReadyH.cons rfl (fun K hK => ?_) AllReadyH.nil
        obtain ⟨⟨q0, q1, q2, q3, q4⟩, ⟨v0, v1, v2, v3, v4⟩⟩ := five_facts (heap_new8 w2 ber0)
        have hzz := HK2.out.alloc (.cells #[.int .u8 (cl : Int), .int .u8 (nu : Int), .bool false, .slice D fl dd, .slice BB 0 bb] 25)
        go_simp
        refine hK.out _ _ ⟨(HT0.out _ hzz).1, (HT0.out _ hzz).2.1⟩ (fun HS => ?_)
        clear hK K
        refine wpAnyH_done (by kernel_rfl) ?_ _
        go_wp2_with fail
        go_meet
        have hk9 : Keeps [] w2 (w2.alloc (.cells #[.int .u8 (cl : Int), .int .u8 (nu : Int), .bool false, .slice D fl dd, .slice BB 0 bb] 25)) := (Keeps.refl [] w2).alloc _
        have hb9 := heap_new8 w2 (.cells #[.int .u8 (cl : Int), .int .u8 (nu : Int), .bool false, .slice D fl dd, .slice BB 0 bb] 25)
        have hy9 := HB2.out [] _ (by simp) hk9
        have hz9 := HK2.out.trans' hk9
        exact ⟨w2.heap.size, D, dd, BB, bb, rfl, ⟨hb9, hy9, hz9⟩⟩

      · go_simp
        refine hK.out _ _ ⟨(HT0.out _ (by repeat (first | exact Keeps.refl [] _ | exact HK2.out | exact HK1.out | refine Keeps.alloc ?_ _ | refine Keeps.drew ?_ | refine Keeps.setCell ?_ (.inr (by first | exact Nat.le_refl _ | exact HK1.out.size | exact HK2.out.size)) _))).1, (HT0.out _ (by repeat (first | exact Keeps.refl [] _ | exact HK2.out | exact HK1.out | refine Keeps.alloc ?_ _ | refine Keeps.drew ?_ | refine Keeps.setCell ?_ (.inr (by first | exact Nat.le_refl _ | exact HK1.out.size | exact HK2.out.size)) _))).2.1⟩ (fun HS => ?_)
        clear hK K
        refine wpAnyH_ready (rs := [6]) (by kernel_rfl) (by simp) ?_
        refine AllReadyH.cons rfl (fun K hK => ?_) AllReadyH.nil
        go_simp
        refine (HTG.out _ _ _ (HB1.out.grow (by repeat (first | exact Keeps.refl [] _ | refine Keeps.alloc ?_ _ | refine Keeps.drew ?_)))).mono ?_
        rintro e w2 ⟨D, dd, BB, bb, rfl, hb2, hk2⟩
        have HB2 := Lib.hid hb2
        have HK2 : Hid (Keeps [] W0 w2) := Keeps.trans' (by repeat (first | exact Keeps.refl [] _ | exact HK1.out | refine Keeps.alloc ?_ _ | refine Keeps.drew ?_)) hk2
        have HD2 := Lib.hid hk2
        clear hb2 hk2
        refine hK.out _ _ ⟨(HT0.out _ HK2.out).1, (HT0.out _ HK2.out).2.1⟩ (fun HS => ?_)
        clear hK K
        refine wpAnyH_ready (rs := [8]) (by kernel_rfl) (by simp) ?_
        refine AllReadyH.cons rfl (fun K hK => ?_) AllReadyH.nil
        have hb9 := blk_keep (heap_new8 w1 ber0) HD2.out (by simp)
        obtain ⟨⟨q0, q1, q2, q3, q4⟩, ⟨v0, v1, v2, v3, v4⟩⟩ := five_facts hb9
        have HB9 := Lib.hid hb9
        clear hb9
        have hzz := five_keep (v0 := .int .u8 (cl : Int)) (v1 := .int .u8 (nu : Int)) (v2 := .bool false) (v3 := .slice D fl dd) (v4 := .slice BB 0 bb) HK2.out (g := w1.heap.size) (.inr HK1.out.size)
        go_simp
        refine hK.out _ _ ⟨(HT0.out _ hzz).1, (HT0.out _ hzz).2.1⟩ (fun HS => ?_)
        clear hK K
        refine wpAnyH_done (by kernel_rfl) ?_ _
        go_wp2_with fail
        go_meet
        have hb9 := five_set (v0 := .int .u8 (cl : Int)) (v1 := .int .u8 (nu : Int)) (v2 := .bool false) (v3 := .slice D fl dd) (v4 := .slice BB 0 bb) HB9.out
        have hk9 := five_keep (bs := [w1.heap.size]) (v0 := .int .u8 (cl : Int)) (v1 := .int .u8 (nu : Int)) (v2 := .bool false) (v3 := .slice D fl dd) (v4 := .slice BB 0 bb) (Keeps.refl [w1.heap.size] w2) (g := w1.heap.size) (.inl (by simp))
        have hz9 := five_keep (v0 := .int .u8 (cl : Int)) (v1 := .int .u8 (nu : Int)) (v2 := .bool false) (v3 := .slice D fl dd) (v4 := .slice BB 0 bb) HK2.out (g := w1.heap.size) (.inr HK1.out.size)
        have hy9 := HB2.out [w1.heap.size] _ (fun x hx => by simp at hx ⊢; omega) hk9
        exact ⟨w1.heap.size, D, dd, BB, bb, rfl, ⟨hb9, hy9, hz9⟩⟩


    · go_simp
      refine hK.out _ _ ⟨(HT0.out _ (by repeat (first | exact Keeps.refl [] _ | exact HK2.out | exact HK1.out | refine Keeps.alloc ?_ _ | refine Keeps.drew ?_ | refine Keeps.setCell ?_ (.inr (by first | exact Nat.le_refl _ | exact HK1.out.size | exact HK2.out.size)) _))).1, (HT0.out _ (by repeat (first | exact Keeps.refl [] _ | exact HK2.out | exact HK1.out | refine Keeps.alloc ?_ _ | refine Keeps.drew ?_ | refine Keeps.setCell ?_ (.inr (by first | exact Nat.le_refl _ | exact HK1.out.size | exact HK2.out.size)) _))).2.1⟩ (fun HS => ?_)
      clear hK K
      refine wpAnyH_ready (rs := [1]) (by kernel_rfl) (by simp) ?_
      refine AllReadyH.cons rfl (fun K hK => ?_) AllReadyH.nil
      go_simp
      refine (HI.out _).mono ?_
      rintro e w1 ⟨A1, c1, rfl, hb1, hk1⟩
      have HB1 := Lib.hid hb1
      have HK1 : Hid (Keeps [] W0 w1) := Keeps.trans' (by repeat (first | exact Keeps.refl [] _ | refine Keeps.alloc ?_ _ | refine Keeps.drew ?_)) hk1
      have HD1 := Lib.hid hk1
      clear hb1 hk1
      refine hK.out _ _ ⟨(HT0.out _ HK1.out).1, (HT0.out _ HK1.out).2.1⟩ (fun HS => ?_)
      clear hK K
      refine wpAnyH_ready (rs := [6]) (by kernel_rfl) (by simp) ?_
      refine AllReadyH.cons rfl (fun K hK => ?_) AllReadyH.nil
      go_simp
      refine (HTG.out _ _ _ (HB1.out.grow (by repeat (first | exact Keeps.refl [] _ | refine Keeps.alloc ?_ _ | refine Keeps.drew ?_)))).mono ?_
      rintro e w2 ⟨D, dd, BB, bb, rfl, hb2, hk2⟩
      have HB2 := Lib.hid hb2
      have HK2 : Hid (Keeps [] W0 w2) := Keeps.trans' (by repeat (first | exact Keeps.refl [] _ | exact HK1.out | refine Keeps.alloc ?_ _ | refine Keeps.drew ?_)) hk2
      have HD2 := Lib.hid hk2
      clear hb2 hk2
      refine hK.out _ _ ⟨(HT0.out _ HK2.out).1, (HT0.out _ HK2.out).2.1⟩ (fun HS => ?_)
      clear hK K
      refine wpAnyH_ready (rs := [8]) (by kernel_rfl) (by simp) ?_
      refine AllReadyH.cons rfl (fun K hK => ?_) AllReadyH.nil
      have hb8 : w1.heap[W0.heap.size]? = some ber0 := blk_keep (by first | exact heap_new8 W0 ber0 | exact heap_new8 W0.drew ber0) HD1.out (by simp)
      have hb9 := blk_keep hb8 HD2.out (by simp)
      have HLT := Lib.hid (lt_of_heap hb8)
      obtain ⟨⟨q0, q1, q2, q3, q4⟩, ⟨v0, v1, v2, v3, v4⟩⟩ := five_facts hb9
      have HB9 := Lib.hid hb9
      clear hb8 hb9
      have hzz := five_keep (v0 := .int .u8 (cl : Int)) (v1 := .int .u8 (nu : Int)) (v2 := .bool false) (v3 := .slice D fl dd) (v4 := .slice BB 0 bb) HK2.out (g := W0.heap.size) (.inr (Nat.le_refl _))
      go_simp
      refine hK.out _ _ ⟨(HT0.out _ hzz).1, (HT0.out _ hzz).2.1⟩ (fun HS => ?_)
      clear hK K
      refine wpAnyH_done (by kernel_rfl) ?_ _
      go_wp2_with fail
      go_meet
      have hb9 := five_set (v0 := .int .u8 (cl : Int)) (v1 := .int .u8 (nu : Int)) (v2 := .bool false) (v3 := .slice D fl dd) (v4 := .slice BB 0 bb) HB9.out
      have hk9 := five_keep (bs := [W0.heap.size]) (v0 := .int .u8 (cl : Int)) (v1 := .int .u8 (nu : Int)) (v2 := .bool false) (v3 := .slice D fl dd) (v4 := .slice BB 0 bb) (Keeps.refl [W0.heap.size] w2) (g := W0.heap.size) (.inl (by simp))
      have hz9 := five_keep (v0 := .int .u8 (cl : Int)) (v1 := .int .u8 (nu : Int)) (v2 := .bool false) (v3 := .slice D fl dd) (v4 := .slice BB 0 bb) HK2.out (g := W0.heap.size) (.inr (Nat.le_refl _))
      have hy9 := HB2.out [W0.heap.size] _ (fun x hx => by have := HLT.out; simp at hx ⊢; omega) hk9
      exact ⟨W0.heap.size, D, dd, BB, bb, rfl, ⟨hb9, hy9, hz9⟩⟩
  case rest =>
    obtain ⟨g, D, d, B, b, rfl, HN7⟩ := hcut
    obtain ⟨V, hV⟩ : ∃ V : World, V = wc := ⟨_, rfl⟩
    subst hV
    have HVF := Lib.hid (fun X (hk : Keeps [] V X) => (five_facts (blk_keep HN7.out.blk hk (by simp))).1)
    have HVB := Lib.hid (fun X (hk : Keeps [] V X) => HN7.out.bytes.grow hk)
    have HKC := Lib.hid (HK0.out.trans' HN7.out.keeps)
    have HTF := Lib.hid (fun X (hk : Keeps [] V X) => HT0.out X (HN7.out.keeps.trans' hk))
    clear HI HTG HN7 HT0 s0 s1 s2
    go_wp2_with fail
    refine (HE.out V).mono ?_
    rintro e w3 ⟨A3, c3, rfl, hb3, hk3⟩
    obtain ⟨W4, hW4⟩ : ∃ W4, w3.alloc (.cells #[.int .u8 0, .int .u8 10, .bool false, .slice A3 fl c3, .slice none 0 0] 25) = W4 := ⟨_, rfl⟩
    have hk4 : Keeps [] w3 W4 := by rw [← hW4]; exact (Keeps.refl [] w3).alloc _
    have hr4 : W4.heap[w3.heap.size]? = some (.cells #[.int .u8 0, .int .u8 10, .bool false, .slice A3 fl c3, .slice none 0 0] 25 (0, 0)) := by rw [← hW4]; exact heap_new8 w3 _
    have HUF := Lib.hid (fun X (hk : Keeps [] W4 X) => (five_facts (blk_keep hr4 hk (by simp))).1)
    have HUB := Lib.hid (fun X (hk : Keeps [] W4 X) => hb3.grow (hk4.trans' hk))
    have HK4 := Lib.hid (hk3.trans' hk4)
    obtain ⟨y0, y1, y2, y3, y4⟩ := HVF.out (w3.alloc (.cells #[.int .u8 0, .int .u8 10, .bool false, .slice A3 fl c3, .slice none 0 0] 25)) (by rw [hW4]; exact HK4.out)
    have HW4 := Lib.hid hW4
    clear hk3 hk4 hb3 hr4 hW4
    go_wp2_with fail
    rw [HW4.out]
    refine (HIO.out W4 D d B b (HVB.out W4 HK4.out)).mono ?_
    rintro e w5 ⟨rfl, hk5⟩
    have HK5 := Lib.hid hk5
    have HK5c := Lib.hid (HK4.out.trans' hk5)
    clear hk5 y0 y1 y2 y3 y4 HW4
    go_upto_region 6 with fail
    go_cut [79] (fun s wx => s = .bool false ∧ Hid (Keeps [] w5 wx))
    case first =>
      have HSX : Hid (∀ X, Keeps [] w5 X → ((X.cell? ⟨g, 0, none⟩ = some (.int .u8 (cl : Int)) ∧ X.cell? ⟨g, 1, none⟩ = some (.int .u8 (nu : Int)) ∧ X.cell? ⟨g, 3, none⟩ = some (.slice D fl d)) ∧ (X.cell? ⟨w.heap.size, 0, none⟩ = some (.int .u8 (cl : Int)) ∧ X.cell? ⟨w.heap.size, 1, none⟩ = some (.int .u8 (nu : Int))) ∧ (X.cell? ⟨w3.heap.size, 1, none⟩ = some (.int .u8 10) ∧ X.cell? ⟨w3.heap.size, 3, none⟩ = some (.slice A3 fl c3))) ∧ (convert 22 9 (.slice D fl d)).run Try.prog X = .ok (.string ⟨fs.toArray⟩) X ∧ (convert 22 9 (.slice A3 fl c3)).run Try.prog X = .ok (.string ⟨fs.toArray⟩) X) := fun X hk =>
        ⟨⟨⟨(HVF.out X (HK5c.out.trans' hk)).1, (HVF.out X (HK5c.out.trans' hk)).2.1, (HVF.out X (HK5c.out.trans' hk)).2.2.2.1⟩, ⟨(HTF.out X (HK5c.out.trans' hk)).1, (HTF.out X (HK5c.out.trans' hk)).2.1⟩, ⟨(HUF.out X (HK5.out.trans' hk)).2.1, (HUF.out X (HK5.out.trans' hk)).2.2.2.1⟩⟩, conv_bytes (HVB.out X (HK5c.out.trans' hk)), conv_bytes (HUB.out X (HK5.out.trans' hk))⟩
      have HWH : Hid (∀ X, Keeps [] w5 X → Calls Try.prog 23 #[.int .i64 n] X fun e w' => ∃ A c, e = .returned (.slice A fl c) ∧ (convert 22 9 (.slice A fl c)).run Try.prog w' = .ok (.string ⟨fs.toArray⟩) w' ∧ Keeps [] w5 w') := fun X hk => by
        refine (HW.out X).mono ?_
        rintro e w' ⟨A, c, rfl, h1, h2⟩
        exact ⟨A, c, rfl, conv_bytes h1, hk.trans' h2⟩
      clear HVF HTF HUF HVB HUB HIO HE HW
      go_region_held (fun X => ((X.cell? ⟨g, 0, none⟩ = some (.int .u8 (cl : Int)) ∧ X.cell? ⟨g, 1, none⟩ = some (.int .u8 (nu : Int)) ∧ X.cell? ⟨g, 3, none⟩ = some (.slice D fl d)) ∧ (X.cell? ⟨w.heap.size, 0, none⟩ = some (.int .u8 (cl : Int)) ∧ X.cell? ⟨w.heap.size, 1, none⟩ = some (.int .u8 (nu : Int))) ∧ (X.cell? ⟨w3.heap.size, 1, none⟩ = some (.int .u8 10) ∧ X.cell? ⟨w3.heap.size, 3, none⟩ = some (.slice A3 fl c3))) ∧ (convert 22 9 (.slice D fl d)).run Try.prog X = .ok (.string ⟨fs.toArray⟩) X ∧ (convert 22 9 (.slice A3 fl c3)).run Try.prog X = .ok (.string ⟨fs.toArray⟩) X) (exact HSX.out _ (by repeat (first | exact Keeps.refl [] _ | exact KK1.out | refine Keeps.drew ?_)))
        (first
        | (go_at_call 23; refine (HWH.out _ (by repeat (first | exact Keeps.refl [] _ | refine Keeps.drew ?_))).mono ?_; rintro e v1 ⟨G, gg, rfl, hcv1, kk⟩; have KK1 := Lib.hid kk; clear kk))
      all_goals
        go_wp2_with fail
        go_meet
        exact ⟨rfl, KK1.out⟩
    case rest =>
      obtain ⟨rfl, HK6⟩ := hcut
      have HKw := Lib.hid (HKC.out.trans' (HK5c.out.trans' HK6.out))
      have s2 : (wc.alloc (.cells #[.int .u8 0, .int .u8 2, .bool false, .slice A m c, .slice none 0 0] 25)).cell? ⟨w.heap.size, 2, none⟩ = some (.bool false) := (HTF.out _ (HK5c.out.trans' (HK6.out.alloc _))).2.2
      have HS2 : Hid (∀ X, Keeps [] wc X → X.cell? ⟨w.heap.size, 2, none⟩ = some (.bool false)) := fun X hk => (HTF.out _ (HK5c.out.trans' (HK6.out.trans' hk))).2.2
      have hlt : w.heap.size < wc.heap.size := by have := lt_of_cell (HTF.out _ (HK5c.out.trans' HK6.out)).2.2; exact this
      have hne : ¬ w.heap.size = wc.heap.size := by omega
      clear HVF HUF HVB HUB HIO HE HTF hlt
      have HIF : Hid (∀ X, Keeps [] wc X → Calls Try.prog 22 #[.agg #[.int .u8 0, .int .u8 2, .bool false, .slice A m c, .slice none 0 0]] X fun e w' => e = .returned (intR false xs) ∧ Keeps [] X w') := fun X hk => intof_is 0 2 false A none m c 0 0 xs X HM.out (HB.out.grow (HKw.out.trans' hk))
      have HTR : Hid (∀ X, Keeps [] wc X → Calls Try.prog 24 #[.agg #[.int .u8 0, .int .u8 2, .bool false, .slice A m c, .slice none 0 0]] X fun e w' => e = .returned (truthR false xs) ∧ Keeps [] X w') := fun X hk => truthof_is 0 2 false A none m c 0 0 xs X HM.out (HB.out.grow (HKw.out.trans' hk))
      have hk8 : Keeps [] wc (wc.alloc (.cells #[.int .u8 0, .int .u8 2, .bool false, .slice A m c, .slice none 0 0] 25)) := (Keeps.refl [] wc).alloc _
      have hr8 : (wc.alloc (.cells #[.int .u8 0, .int .u8 2, .bool false, .slice A m c, .slice none 0 0] 25)).heap[wc.heap.size]? = some (.cells #[.int .u8 0, .int .u8 2, .bool false, .slice A m c, .slice none 0 0] 25 (0, 0)) := heap_new8 wc _
      obtain ⟨W8, hW8⟩ : ∃ W8, wc.alloc (.cells #[.int .u8 0, .int .u8 2, .bool false, .slice A m c, .slice none 0 0] 25) = W8 := ⟨_, rfl⟩
      have HW8 := Lib.hid hW8
      rw [hW8] at hk8 hr8
      clear hW8
      have HBF := Lib.hid (fun X (hk : Keeps [] W8 X) => (five_facts (blk_keep hr8 hk (by simp))).1)
      have HK8 := Lib.hid hk8
      clear hk8 hr8
      obtain ⟨r, hr⟩ : ∃ r, isFew xs = r := ⟨_, rfl⟩
      obtain ⟨kq, hkq⟩ : ∃ kq : Int, (if isFew xs then sgnB xs else 0) = kq := ⟨_, rfl⟩
      have hint : intR false xs = .tuple #[.int .i64 kq, .bool r] := by
        rw [← hkq, ← hr]
        unfold intR
        cases isFew xs <;> rfl
      obtain ⟨t1, ht1⟩ : ∃ t1, (xs == [255]) = t1 := ⟨_, rfl⟩
      obtain ⟨t2, ht2⟩ : ∃ t2, (xs == [255] || xs == [0]) = t2 := ⟨_, rfl⟩
      have htru : truthR false xs = .tuple #[.bool t1, .bool t2] := by
        rw [← ht2, ← ht1]
        rfl
      rw [hint] at HIF
      rw [htru] at HTR
      have HR := Lib.hid hr
      have HKQ := Lib.hid hkq
      have HT1 := Lib.hid ht1
      have HT2 := Lib.hid ht2
      clear hr hkq ht1 ht2 hint htru
      go_wp2_with fail
      rw [HW8.out]
      refine (HIF.out W8 HK8.out).mono ?_
      rintro e v1 ⟨rfl, kk⟩
      have KV1 := Lib.hid kk
      obtain ⟨y0, y1, y2, y3, y4⟩ := HBF.out v1 kk
      clear kk s2
      go_wp2_with fail
      refine (HTR.out v1 (HK8.out.trans' KV1.out)).mono ?_
      rintro e v2 ⟨rfl, kk⟩
      have KV2 := Lib.hid (HK8.out.trans' (KV1.out.trans' kk))
      have s2 := HS2.out v2 KV2.out
      clear kk y0 y1 y2 y3 y4
      go_upto_region 15 with fail
      go_cut [16] (fun s wx => s = .bool r ∧ Hid (Keeps [] v2 wx))
      case first =>
        have HKv := Lib.hid (HKw.out.trans' KV2.out)
        have HSX : Hid (∀ X, Keeps [] v2 X → (convert 22 9 (.slice A m c)).run Try.prog X = .ok (.string ⟨xs.toArray⟩) X) := fun X hk => conv_bytes (HB.out.grow (HKv.out.trans' hk))
        rcases Nat.eq_zero_or_pos m with hm0 | hm0
        · have hrf : r = false := by
            rw [← HR.out]
            unfold isFew
            rw [show xs.length = 0 by rw [HM.out]; exact hm0]
            rfl
          subst hrf
          have hg : decide ((1 : Int) ≤ (m : Int)) = false := by rw [hm0]; rfl
          clear hm0 HIF HTR HW HBF HSX
          refine region_Y (by kernel_rfl) (by kernel_rfl) (fun Z hon hoff hend => ?_)
          refine hon _ _ _ ?A100 (by kernel_rfl) ?B100 ?C100
          case B100 =>
            intro K hK
            go_simp
            exact hK
          refine hon _ _ _ ?A101 (by kernel_rfl) ?B101 ?C101
          case B101 =>
            intro K hK
            go_simp
            exact hK
          refine hon _ _ _ ?A102 (by kernel_rfl) ?B102 ?C102
          case B102 =>
            intro K hK
            go_simp
            exact hK
          refine hon _ _ _ ?A103 (by kernel_rfl) ?B103 ?C103
          case B103 =>
            intro K hK
            go_simp
            exact hK
          refine hoff _ _ _ (by kernel_rfl) ?_
          refine hoff _ _ _ (by kernel_rfl) ?_
          refine hoff _ _ _ (by kernel_rfl) ?_
          refine hon _ _ _ ?A107 (by kernel_rfl) ?B107 ?C107
          case B107 =>
            intro K hK
            go_simp
            exact hK
          refine hon _ _ _ ?A108 (by kernel_rfl) ?B108 ?C108
          case B108 =>
            intro K hK
            go_simp
            exact hK
          refine hoff _ _ _ (by kernel_rfl) ?_
          refine hoff _ _ _ (by kernel_rfl) ?_
          refine hoff _ _ _ (by kernel_rfl) ?_
          refine hoff _ _ _ (by kernel_rfl) ?_
          refine hoff _ _ _ (by kernel_rfl) ?_
          refine hoff _ _ _ (by kernel_rfl) ?_
          refine hoff _ _ _ (by kernel_rfl) ?_
          refine hon _ _ _ ?A116 (by kernel_rfl) ?B116 ?C116
          case B116 =>
            intro K hK
            go_simp
            exact hK
          refine hon _ _ _ ?A117 (by kernel_rfl) ?B117 ?C117
          case B117 =>
            intro K hK
            go_simp
            exact hK
          refine hend _ ?_
          clear hon hoff hend Z
          go_wp2_with fail
          go_meet
          exact ⟨rfl, by repeat (first | exact Keeps.refl [] _ | refine Keeps.drew ?_)⟩
        rcases Nat.lt_or_ge 8 m with hm8 | hm8
        · have hrf : r = false := by
            rw [← HR.out]
            unfold isFew
            rw [show decide (1 ≤ xs.length ∧ xs.length ≤ 8) = false by rw [HM.out]; simp; omega]
            rfl
          subst hrf
          have hg : decide ((1 : Int) ≤ (m : Int)) = true := by simp; omega
          have hg2 : decide ((m : Int) ≤ 8) = false := by simp; omega
          clear hm0 hm8 HIF HTR HW HBF HSX
          refine region_Y (by kernel_rfl) (by kernel_rfl) (fun Z hon hoff hend => ?_)
          refine hon _ _ _ ?A200 (by kernel_rfl) ?B200 ?C200
          case B200 =>
            intro K hK
            go_simp
            exact hK
          refine hon _ _ _ ?A201 (by kernel_rfl) ?B201 ?C201
          case B201 =>
            intro K hK
            go_simp
            exact hK
          refine hon _ _ _ ?A202 (by kernel_rfl) ?B202 ?C202
          case B202 =>
            intro K hK
            go_simp
            exact hK
          refine hon _ _ _ ?A203 (by kernel_rfl) ?B203 ?C203
          case B203 =>
            intro K hK
            go_simp
            exact hK
          refine hon _ _ _ ?A204 (by kernel_rfl) ?B204 ?C204
          case B204 =>
            intro K hK
            go_simp
            exact hK
          refine hon _ _ _ ?A205 (by kernel_rfl) ?B205 ?C205
          case B205 =>
            intro K hK
            go_simp
            exact hK
          refine hon _ _ _ ?A206 (by kernel_rfl) ?B206 ?C206
          case B206 =>
            intro K hK
            go_simp
            exact hK
          refine hon _ _ _ ?A207 (by kernel_rfl) ?B207 ?C207
          case B207 =>
            intro K hK
            go_simp
            exact hK
          refine hon _ _ _ ?A208 (by kernel_rfl) ?B208 ?C208
          case B208 =>
            intro K hK
            go_simp
            exact hK
          refine hoff _ _ _ (by kernel_rfl) ?_
          refine hoff _ _ _ (by kernel_rfl) ?_
          refine hoff _ _ _ (by kernel_rfl) ?_
          refine hoff _ _ _ (by kernel_rfl) ?_
          refine hoff _ _ _ (by kernel_rfl) ?_
          refine hoff _ _ _ (by kernel_rfl) ?_
          refine hoff _ _ _ (by kernel_rfl) ?_
          refine hon _ _ _ ?A216 (by kernel_rfl) ?B216 ?C216
          case B216 =>
            intro K hK
            go_simp
            exact hK
          refine hon _ _ _ ?A217 (by kernel_rfl) ?B217 ?C217
          case B217 =>
            intro K hK
            go_simp
            exact hK
          refine hend _ ?_
          clear hon hoff hend Z
          go_wp2_with fail
          go_meet
          exact ⟨rfl, by repeat (first | exact Keeps.refl [] _ | refine Keeps.drew ?_)⟩
        have hg : decide ((1 : Int) ≤ (m : Int)) = true := by simp; omega
        have hg2 : decide ((m : Int) ≤ 8) = true := by simp; omega
        have htk : xs.take 8 = xs := List.take_of_length_le (by rw [HM.out]; exact hm8)
        have HNM : Hid (∀ X, Keeps [] v2 X → Calls Try.prog 25 #[.slice A m c] X fun e w' => e = .returned (.int .i64 (sgnB xs)) ∧ X = w') := fun X hk => by
          have h9 := number5_is A m c xs X HM.out (by omega) (HB.out.grow (HKv.out.trans' hk))
          rw [htk] at h9
          exact h9
        have HWZ : Hid (∀ X, Keeps [] v2 X → Calls Try.prog 23 #[.int .i64 (sgnB xs)] X fun e w' => ∃ A c, e = .returned (.slice A (fewB (sgnB xs)).length c) ∧ (convert 22 9 (.slice A (fewB (sgnB xs)).length c)).run Try.prog w' = .ok (.string ⟨(fewB (sgnB xs)).toArray⟩) w' ∧ Keeps [] v2 w') := fun X hk => by
          refine (whole_is (sgnB xs) X (sgnB_in xs)).mono ?_
          rintro e w' ⟨A, c, rfl, h1, h2⟩
          exact ⟨A, c, rfl, conv_bytes h1, hk.trans' h2⟩
        have hrv : r = (xs == fewB (sgnB xs)) := by
          rw [← HR.out]
          unfold isFew
          rw [show decide (1 ≤ xs.length ∧ xs.length ≤ 8) = true by rw [HM.out]; simp; omega]
          rfl
        obtain ⟨z, hz⟩ : ∃ z, sgnB xs = z := ⟨_, rfl⟩
        rw [hz] at HNM HWZ hrv
        obtain ⟨ws, hws⟩ : ∃ ws, fewB z = ws := ⟨_, rfl⟩
        rw [hws] at HWZ hrv
        obtain ⟨wl, hwl⟩ : ∃ wl, ws.length = wl := ⟨_, rfl⟩
        rw [hwl] at HWZ
        clear hwl hws hz htk hm0 hm8 HIF HTR HW HBF HR HKQ
        rcases Decidable.em (ws = xs) with hq | hq
        · subst hq
          have hrt : r = true := by rw [hrv]; simp
          subst hrt
          clear hrv
          go_region_held (fun X => (convert 22 9 (.slice A m c)).run Try.prog X = .ok (.string ⟨ws.toArray⟩) X) (exact HSX.out _ (by repeat (first | exact Keeps.refl [] _ | exact KW1.out | refine Keeps.drew ?_)))
            (first
            | (go_at_call 25; refine (HNM.out _ (by repeat (first | exact Keeps.refl [] _ | refine Keeps.drew ?_))).mono ?_; rintro e o1 ⟨rfl, rfl⟩)
            | (go_at_call 23; refine (HWZ.out _ (by repeat (first | exact Keeps.refl [] _ | refine Keeps.drew ?_))).mono ?_; rintro e o2 ⟨G, gg, rfl, hcv1, kk⟩; have KW1 := Lib.hid kk; clear kk))
          all_goals
            go_wp2_with fail
            go_meet
            exact ⟨rfl, KW1.out⟩
        · have hrf : r = false := by
            rw [hrv, ← Bool.not_eq_true]
            intro h
            exact hq (eq_of_beq h).symm
          subst hrf
          have hqb : (ws == xs) = false := by rw [← Bool.not_eq_true]; intro h; exact hq (eq_of_beq h)
          clear hrv
          go_region_held (fun X => (convert 22 9 (.slice A m c)).run Try.prog X = .ok (.string ⟨xs.toArray⟩) X) (exact HSX.out _ (by repeat (first | exact Keeps.refl [] _ | exact KW1.out | refine Keeps.drew ?_)))
            (first
            | (go_at_call 25; refine (HNM.out _ (by repeat (first | exact Keeps.refl [] _ | refine Keeps.drew ?_))).mono ?_; rintro e o1 ⟨rfl, rfl⟩)
            | (go_at_call 23; refine (HWZ.out _ (by repeat (first | exact Keeps.refl [] _ | refine Keeps.drew ?_))).mono ?_; rintro e o2 ⟨G, gg, rfl, hcv1, kk⟩; have KW1 := Lib.hid kk; clear kk))
          all_goals
            go_wp2_with fail
            go_meet
            exact ⟨rfl, KW1.out⟩
      case rest =>
        obtain ⟨rfl, HK9⟩ := hcut
        have HKe := Lib.hid (HKw.out.trans' (KV2.out.trans' HK9.out))
        have HNM : Hid (r = true → ∀ X, Keeps [] wc X → Calls Try.prog 25 #[.slice A m c] X fun e w' => e = .returned (.int .i64 kq) ∧ X = w') := fun h X hk => by
          have h9 := number5_is A m c xs X HM.out (by omega) (HB.out.grow (HKe.out.trans' hk))
          have h10 := HR.out
          rw [h] at h10
          have h11 := HKQ.out
          rw [h10] at h11
          unfold isFew at h10
          simp only [Bool.and_eq_true, decide_eq_true_eq] at h10
          rw [List.take_of_length_le h10.1.2, show sgnB xs = kq from h11] at h9
          exact h9
        have HK0' : Hid (r = false → kq = 0) := fun h => by
          rw [← HKQ.out, HR.out, h]; rfl
        have HBY := Lib.hid (HB.out.grow HKe.out)
        clear HIF HTR HW HBF HR HKQ s2 HS2 HK0 HFS HFL
        by_cases hm1 : m = 1
        · subst hm1
          obtain ⟨b9, o9, rfl, hcc⟩ := bytes_addr HBY.out (by decide)
          obtain ⟨x, rfl⟩ : ∃ x, xs = [x] := List.length_eq_one_iff.1 HM.out
          have hx0 := hcc 0 x rfl
          rw [Nat.add_zero] at hx0
          have e1 := HT1.out
          have e2 := HT2.out
          have hx9 : x.toNat < 256 := x.toNat_lt
          clear hcc HBY HB HM HT1 HT2
          rcases Decidable.em (x = 0) with h0 | h0
          · subst h0
            obtain rfl : t1 = false := by rw [← e1]; rfl
            obtain rfl : t2 = true := by rw [← e2]; rfl
            clear e1 e2
            cases r
            · obtain rfl : kq = 0 := HK0'.out rfl
              go_wp2_with fail
              first
                | (refine (known5_any _).mono ?_
                   rintro e v9 ⟨rfl, kk⟩
                   have KV9 := Lib.hid (HKe.out.trans' kk)
                   clear kk
                   go_wp2_with fail
                   go_ret
                   exact ⟨rfl, below_keeps KV9.out⟩)
                | (refine (HNM.out (by first | exact trivial | rfl) _ (Keeps.refl _ _)).mono ?_
                   rintro e v8 ⟨rfl, rfl⟩
                   go_wp2_with fail
                   refine (known5_any _).mono ?_
                   rintro e v9 ⟨rfl, kk⟩
                   have KV9 := Lib.hid (HKe.out.trans' kk)
                   clear kk
                   go_wp2_with fail
                   go_ret
                   exact ⟨rfl, below_keeps KV9.out⟩)
            · go_wp2_with fail
              first
                | (refine (known5_any _).mono ?_
                   rintro e v9 ⟨rfl, kk⟩
                   have KV9 := Lib.hid (HKe.out.trans' kk)
                   clear kk
                   go_wp2_with fail
                   go_ret
                   exact ⟨rfl, below_keeps KV9.out⟩)
                | (refine (HNM.out (by first | exact trivial | rfl) _ (Keeps.refl _ _)).mono ?_
                   rintro e v8 ⟨rfl, rfl⟩
                   go_wp2_with fail
                   refine (known5_any _).mono ?_
                   rintro e v9 ⟨rfl, kk⟩
                   have KV9 := Lib.hid (HKe.out.trans' kk)
                   clear kk
                   go_wp2_with fail
                   go_ret
                   exact ⟨rfl, below_keeps KV9.out⟩)
          rcases Decidable.em (x = 255) with h1 | h1
          · subst h1
            obtain rfl : t1 = true := by rw [← e1]; rfl
            obtain rfl : t2 = true := by rw [← e2]; rfl
            clear e1 e2 h0
            cases r
            · obtain rfl : kq = 0 := HK0'.out rfl
              go_wp2_with fail
              first
                | (refine (known5_any _).mono ?_
                   rintro e v9 ⟨rfl, kk⟩
                   have KV9 := Lib.hid (HKe.out.trans' kk)
                   clear kk
                   go_wp2_with fail
                   go_ret
                   exact ⟨rfl, below_keeps KV9.out⟩)
                | (refine (HNM.out (by first | exact trivial | rfl) _ (Keeps.refl _ _)).mono ?_
                   rintro e v8 ⟨rfl, rfl⟩
                   go_wp2_with fail
                   refine (known5_any _).mono ?_
                   rintro e v9 ⟨rfl, kk⟩
                   have KV9 := Lib.hid (HKe.out.trans' kk)
                   clear kk
                   go_wp2_with fail
                   go_ret
                   exact ⟨rfl, below_keeps KV9.out⟩)
            · go_wp2_with fail
              first
                | (refine (known5_any _).mono ?_
                   rintro e v9 ⟨rfl, kk⟩
                   have KV9 := Lib.hid (HKe.out.trans' kk)
                   clear kk
                   go_wp2_with fail
                   go_ret
                   exact ⟨rfl, below_keeps KV9.out⟩)
                | (refine (HNM.out (by first | exact trivial | rfl) _ (Keeps.refl _ _)).mono ?_
                   rintro e v8 ⟨rfl, rfl⟩
                   go_wp2_with fail
                   refine (known5_any _).mono ?_
                   rintro e v9 ⟨rfl, kk⟩
                   have KV9 := Lib.hid (HKe.out.trans' kk)
                   clear kk
                   go_wp2_with fail
                   go_ret
                   exact ⟨rfl, below_keeps KV9.out⟩)
          have h2 : ¬ (x.toNat : Int) = 0 := fun h => h0 (UInt8.toNat_inj.1 (by show x.toNat = 0; omega))
          have h3 : ¬ (x.toNat : Int) = 255 := fun h => h1 (UInt8.toNat_inj.1 (by show x.toNat = 255; omega))
          have h2b : ((x.toNat : Int) == 0) = false := by simpa using h2
          have h3b : ((x.toNat : Int) == 255) = false := by simpa using h3
          obtain rfl : t1 = false := by rw [← e1]; simpa using h1
          obtain rfl : t2 = false := by rw [← e2]; simp [h0, h1]
          clear e1 e2 h0 h1
          cases r
          · obtain rfl : kq = 0 := HK0'.out rfl
            go_wp2_with fail
            first
              | (refine (known5_any _).mono ?_
                 rintro e v9 ⟨rfl, kk⟩
                 have KV9 := Lib.hid (HKe.out.trans' kk)
                 clear kk
                 go_wp2_with fail
                 go_ret
                 exact ⟨rfl, below_keeps KV9.out⟩)
              | (refine (HNM.out (by first | exact trivial | rfl) _ (Keeps.refl _ _)).mono ?_
                 rintro e v8 ⟨rfl, rfl⟩
                 go_wp2_with fail
                 refine (known5_any _).mono ?_
                 rintro e v9 ⟨rfl, kk⟩
                 have KV9 := Lib.hid (HKe.out.trans' kk)
                 clear kk
                 go_wp2_with fail
                 go_ret
                 exact ⟨rfl, below_keeps KV9.out⟩)
          · go_wp2_with fail
            first
              | (refine (known5_any _).mono ?_
                 rintro e v9 ⟨rfl, kk⟩
                 have KV9 := Lib.hid (HKe.out.trans' kk)
                 clear kk
                 go_wp2_with fail
                 go_ret
                 exact ⟨rfl, below_keeps KV9.out⟩)
              | (refine (HNM.out (by first | exact trivial | rfl) _ (Keeps.refl _ _)).mono ?_
                 rintro e v8 ⟨rfl, rfl⟩
                 go_wp2_with fail
                 refine (known5_any _).mono ?_
                 rintro e v9 ⟨rfl, kk⟩
                 have KV9 := Lib.hid (HKe.out.trans' kk)
                 clear kk
                 go_wp2_with fail
                 go_ret
                 exact ⟨rfl, below_keeps KV9.out⟩)
        · have hmi : ¬ (m : Int) = 1 := by omega
          have hmb : ((m : Int) == 1) = false := by simpa using hmi
          have hxn : ∀ u : UInt8, (xs == [u]) = false := fun u => by
            rw [← Bool.not_eq_true]
            intro h
            have h9 := congrArg List.length (eq_of_beq h)
            rw [HM.out] at h9
            exact hm1 h9
          obtain rfl : t1 = false := by rw [← HT1.out]; exact hxn 255
          obtain rfl : t2 = false := by rw [← HT2.out, hxn, hxn]; rfl
          clear hm1 hxn HT1 HT2
          cases r
          · obtain rfl : kq = 0 := HK0'.out rfl
            go_wp2_with fail
            first
              | (refine (known5_any _).mono ?_
                 rintro e v9 ⟨rfl, kk⟩
                 have KV9 := Lib.hid (HKe.out.trans' kk)
                 clear kk
                 go_wp2_with fail
                 go_ret
                 exact ⟨rfl, below_keeps KV9.out⟩)
              | (refine (HNM.out (by first | exact trivial | rfl) _ (Keeps.refl _ _)).mono ?_
                 rintro e v8 ⟨rfl, rfl⟩
                 go_wp2_with fail
                 refine (known5_any _).mono ?_
                 rintro e v9 ⟨rfl, kk⟩
                 have KV9 := Lib.hid (HKe.out.trans' kk)
                 clear kk
                 go_wp2_with fail
                 go_ret
                 exact ⟨rfl, below_keeps KV9.out⟩)
          · go_wp2_with fail
            first
              | (refine (known5_any _).mono ?_
                 rintro e v9 ⟨rfl, kk⟩
                 have KV9 := Lib.hid (HKe.out.trans' kk)
                 clear kk
                 go_wp2_with fail
                 go_ret
                 exact ⟨rfl, below_keeps KV9.out⟩)
              | (refine (HNM.out (by first | exact trivial | rfl) _ (Keeps.refl _ _)).mono ?_
                 rintro e v8 ⟨rfl, rfl⟩
                 go_wp2_with fail
                 refine (known5_any _).mono ?_
                 rintro e v9 ⟨rfl, kk⟩
                 have KV9 := Lib.hid (HKe.out.trans' kk)
                 clear kk
                 go_wp2_with fail
                 go_ret
                 exact ⟨rfl, below_keeps KV9.out⟩)

end Go.Proofs.Ytnengckecooohaa
