/- Texts of one proof, laid together: N63 N64. -/
import Derived.Test.YtmgkejgmkfeccaaDoorM31
import Derived.Test.YtmgkejgmkfeccaaDoorM16
import Derived.Test.YtmgkejgmkfeccaaDoorM26
import Derived.Test.YtmgkejgmkfeccaaDoorM18
/- dn: the document's Parse; walked. -/
namespace Go.Proofs.YtmgkejgmkfeccaaDoor
open Go.RowKit Go.Shelf
set_option linter.unusedVariables false
set_option linter.unusedSimpArgs false
set_option maxRecDepth 100000

/-- What the document's Parse answers. -/
def RParQ (T : List UInt8) (w : World) (e : Ending) (w' : World) : Prop :=
  (∀ d, parseD T = some d → ∃ A n c, e = .returned (.tuple #[.slice A n c, .bool true]) ∧ n ≤ 16 ∧ DnIn w' A n d) ∧
  (parseD T = none → e = .returned (.tuple #[.slice none 0 0, .bool false])) ∧ Keeps [] w w'
/-- What a round of Parse's loop finds. -/
structure NdS (T : List UInt8) (w wr : World) (A : Option Addr) (an cc k : Nat) (acc : List Part6) : Prop where
  inv : nameD T [] = nameD (T.drop k) acc
  le : k ≤ T.length
  len : acc.length = an
  a16 : an ≤ 16
  row : wr.ownsRow w.heap.size 53 2 (.slice A an cc) an (dnCells acc)
  keep : Keeps [] w wr
  txt : ∀ p ∈ acc, p.1.length ≤ 9223372036854775807 ∧ p.2.length ≤ 9223372036854775807
theorem NdS.grown {T s x : List UInt8} {an cc k : Nat} {w wr w4 w5 : World} {A : Option Addr} {acc : List Part6} {v : Value} (h : NdS T w wr A an cc k acc) (hk : Keeps [] wr w4)
    (ho : w5.ownsRow w.heap.size 53 2 v (an + 1) (dnCells acc ++ [tv s, tv x])) (hg : (w4.alloc (.cells #[tv s, tv x] 53)).grownBy w5 (Value.slice A an cc).ownBlock) (h1 : s.length ≤ 1000000000) (h2 : x.length ≤ 1000000000) :
    ∃ VB vd, v = .slice VB (an + 1) vd ∧ w5.ownsRow w.heap.size 53 2 (.slice VB (an + 1) vd) (an + 1) (dnCells (acc ++ [(s, x)])) ∧ Keeps [] w w5 ∧ (acc ++ [(s, x)]).length = an + 1 ∧ ∀ p ∈ acc ++ [(s, x)], p.1.length ≤ 9223372036854775807 ∧ p.2.length ≤ 9223372036854775807 := by
  obtain ⟨VB, vd, hv⟩ := own_slice ho
  subst hv
  have hrow2 : (w4.alloc (.cells #[tv s, tv x] 53)).ownsRow w.heap.size 53 2 (.slice A an cc) an (dnCells acc) := own_keep h.row (hk.alloc _) (by simp)
  have hk2 : Keeps [] w (w4.alloc (.cells #[tv s, tv x] 53)) := h.keep.trans' (hk.alloc _)
  refine ⟨VB, vd, rfl, by rw [dnCells_snoc]; exact ho, keeps_own6 hrow2 hk2 hg, by simp [h.len], fun p hp => ?_⟩
  rcases List.mem_append.1 hp with hp | hp
  · exact h.txt p hp
  · simp at hp
    subst hp
    constructor <;> dsimp only <;> omega
theorem measP {N a b : Nat} (h : a < b) (hb : b ≤ N) : N + 1 - (intOf (.int .i64 (b : Int))).toNat < N + 1 - (intOf (.int .i64 (a : Int))).toNat := by
  simp [intOf]
  omega

set_option maxHeartbeats 16000000 in
theorem rparse_is (T : List UInt8) (w : World) (hl : T.length ≤ 1000000000) :
    Calls Tryd.prog 8 #[.string ⟨T.toArray⟩] w (RParQ T w) := by
  obtain ⟨iu, hiu, hzu0, hzu1, hzu2⟩ := info_parts rdn_info
  have HLL := Lib.hid hl
  by_cases hT : T = []
  · subst hT
    have HR : Hid (RParQ [] w (.returned (.tuple #[.slice none 0 0, .bool true])) w) :=
      ⟨fun d h => (by
        have h9 : parseD [] = some [] := rfl
        rw [h9] at h
        injection h with h
        subst h
        exact ⟨none, 0, 0, rfl, by omega, rfl, by simp, fun h => by omega⟩), fun h => (by cases h), Keeps.refl _ _⟩
    clear hl HLL
    go_enter Tryd.func8, Tryd.ntmps8
    go_wp2_with fail
    refine bodyPost_ret (results_tmp2 rfl _ _ _) rfl ?_
    exact HR.out
  have HPD : Hid (parseD T = nameD T []) := by show _ = _; unfold parseD; rw [if_neg hT]
  have hie : T.isEmpty = false := by
    cases T with
    | nil => exact absurd rfl hT
    | cons a r => rfl
  obtain ⟨N, hN⟩ : ∃ N, T.length = N := ⟨_, rfl⟩
  have HN := Lib.hid hN
  have hTL : (⟨T.toArray⟩ : ByteArray).size = N := hN
  have HBAD : Hid (∀ X, Keeps [] w X → nameD T [] = none → RParQ T w (.returned (.tuple #[.slice none 0 0, .bool false])) X) := fun X hX h =>
    ⟨fun d h2 => (by rw [HPD.out, h] at h2; cases h2), fun _ => rfl, hX⟩
  rw [hN] at hl
  clear hN hT
  go_enter Tryd.func8, Tryd.ntmps8
  go_wp2_with fail
  go_loopw [4, 5] (fun d i wr => ∃ (A : Option Addr) (an cc k : Nat) (acc : List Part6), d = .slice A an cc ∧ i = .int .i64 (k : Int) ∧ Hid (NdS T w wr A an cc k acc)) (fun _ i _ => N + 1 - (intOf i).toNat)
  case atStart => exact ⟨none, 0, 0, 0, [], rfl, rfl, rfl, Nat.zero_le _, rfl, by omega, World.ownsRow_nil _ _ _ _, Keeps.refl _ _, by simp⟩
  case round =>
    obtain ⟨A, an, cc, k, acc, rfl, rfl, HV⟩ := hrel
    have HPT := Lib.hid (rpart_is T k wr HV.out.le HLL.out)
    have ha16 := HV.out.a16
    go_wp2_with fail
    refine HPT.out.mono ?_
    rintro e w3 ⟨hq1, hq2, hk3⟩
    have HK3 := Lib.hid hk3
    have HKW3 := Lib.hid (HV.out.keep.trans' hk3)
    clear hk3
    cases hp : partD (T.drop k) with
    | none =>
      obtain ⟨a, b, n, rfl⟩ := hq2 hp
      have HR := Lib.hid (HBAD.out (w3.alloc (.cells #[tv a, tv b] 53)) (HKW3.out.alloc _) (by rw [HV.out.inv]; exact nameD_none hp))
      clear hq1 hq2 hp
      unfold tv at HR ⊢
      go_wp2_with fail
      refine bodyPost_ret (results_tmp2 rfl _ _ _) rfl ?_
      exact HR.out
    | some y =>
      obtain ⟨⟨s, x⟩, r⟩ := y
      obtain ⟨n, rfl, hkn, hnN, hdr, hs, hx⟩ := hq1 (s, x) r hp
      dsimp only at hs hx
      rcases Nat.lt_or_ge an 16 with h16 | h16
      · have hg16 : ¬ (16 : Int) ≤ (an : Int) := by omega
        have hg16b : decide ((16 : Int) ≤ (an : Int)) = false := by simp; omega
        have HB1 : Hid (an + 1 ≤ maxLen) := by show _ ≤ _; unfold maxLen; omega
        have HB2 : Hid ((an + 1) * 32 ≤ 140737488355328) := by show _ ≤ _; omega
        obtain ⟨w4, hw4⟩ : ∃ w4, w3.alloc (.cells #[.string ⟨s.toArray⟩, .string ⟨x.toArray⟩] 53) = w4 := ⟨_, rfl⟩
        have HK4 : Hid (Keeps [] wr w4) := by rw [← hw4]; exact HK3.out.alloc _
        have hb4 : w4.heap[w3.heap.size]? = some (.cells #[.string ⟨s.toArray⟩, .string ⟨x.toArray⟩] 53 (0, 0)) := by rw [← hw4]; exact heap_new8 w3 _
        obtain ⟨⟨c0, c1⟩, _⟩ := blk2 hb4
        have HB3 : Hid (w.heap.size ≤ (w4.alloc (.cells #[tv s, tv x] 53)).heap.size) := by
          have h9 := (HV.out.keep.trans' HK4.out).size
          show _ ≤ _
          simp
          omega
        have HEND : Hid (N ≤ n → nameD T [] = some (acc ++ [(s, x)])) := fun h => by
          rw [HV.out.inv]
          refine nameD_end (p := (s, x)) ?_ (by rw [HV.out.len]; exact h16)
          rw [hp, ← hdr, List.drop_of_length_le (by rw [HN.out]; exact h)]
        have HMO : Hid (n < N → nameD T [] = nameD (T.drop (n + 1)) (acc ++ [(s, x)])) := fun h => by
          rw [HV.out.inv]
          obtain ⟨u, hu⟩ : ∃ u, T[n]? = some u := ⟨_, List.getElem?_eq_getElem (by rw [HN.out]; exact h)⟩
          refine nameD_more (p := (s, x)) (c := u) ?_ (by rw [HV.out.len]; exact h16)
          rw [hp, ← hdr, drop_at hu]
        have hnN2 : n ≤ N := by have := HN.out; omega
        have HKN := Lib.hid hkn
        clear hq1 hq2 hp hdr hkn hnN hb4 ha16
        unfold tv
        rcases Nat.lt_or_ge n N with hlt | hge
        · have hgn : ¬ (N : Int) ≤ (n : Int) := by omega
          have hgnb : decide ((N : Int) ≤ (n : Int)) = false := by simp; omega
          have HNX := Lib.hid (HMO.out hlt)
          have HLT := Lib.hid hlt
          have HWN : Hid ((n : Int) + 1 = ((n + 1 : Nat) : Int)) := by show _ = _; omega
          clear hlt hnN2
          go_wp2_with (at_builtin; refine wpList_append_opt rfl (.tmp 26) (.tmp 28) 24 rfl w.heap.size 53 iu _ 2 32 Tryd.underlying24 hiu hzu0 hzu1 hzu2 rfl (by decide) (.slice A an cc) an (dnCells acc) rfl (own_keep HV.out.row (HK4.out.alloc _) (by simp)) (some ⟨w4.heap.size, 0, none⟩) 1 1 [tv s, tv x] rfl rfl (src_two6 w4 _ _ _) (by intro u hu; simp at hu; rcases hu with rfl | rfl <;> rfl) HB1.out HB2.out HB3.out ?_; intro v5 w5 ho hg5 hs5; obtain ⟨VB, vd, hv5, hr5, hk5, hl5, ht5⟩ := HV.out.grown HK4.out ho hg5 hs hx; subst hv5; have HR5 := Lib.hid hr5; have HK5 := Lib.hid hk5; have HL5 := Lib.hid hl5; have HT5 := Lib.hid ht5; clear hr5 hk5 hl5 ht5 ho hg5 hs5)
          go_roundw
          case rel => exact ⟨VB, an + 1, vd, n + 1, acc ++ [(s, x)], rfl, congrArg (Value.int IntKind.i64) HWN.out, HNX.out, by have h1 := HLT.out; have h2 := HN.out; omega, HL5.out, by omega, HR5.out, HK5.out, HT5.out⟩
          case measure =>
            rw [HWN.out]
            exact measP (Nat.lt_succ_of_lt HKN.out) HLT.out
        · have hgn : (N : Int) ≤ (n : Int) := by omega
          have hgnb : decide ((N : Int) ≤ (n : Int)) = true := by simp; omega
          have HFI := Lib.hid (HEND.out hge)
          clear hge hnN2
          go_wp2_with (at_builtin; refine wpList_append_opt rfl (.tmp 26) (.tmp 28) 24 rfl w.heap.size 53 iu _ 2 32 Tryd.underlying24 hiu hzu0 hzu1 hzu2 rfl (by decide) (.slice A an cc) an (dnCells acc) rfl (own_keep HV.out.row (HK4.out.alloc _) (by simp)) (some ⟨w4.heap.size, 0, none⟩) 1 1 [tv s, tv x] rfl rfl (src_two6 w4 _ _ _) (by intro u hu; simp at hu; rcases hu with rfl | rfl <;> rfl) HB1.out HB2.out HB3.out ?_; intro v5 w5 ho hg5 hs5; obtain ⟨VB, vd, hv5, hr5, hk5, hl5, ht5⟩ := HV.out.grown HK4.out ho hg5 hs hx; subst hv5; have HR5 := Lib.hid hr5; have HK5 := Lib.hid hk5; have HL5 := Lib.hid hl5; have HT5 := Lib.hid ht5; clear hr5 hk5 hl5 ht5 ho hg5 hs5)
          refine bodyPost_ret (results_tmp2 rfl _ _ _) rfl ?_
          refine ⟨fun d h => ?_, fun h => ?_, HK5.out⟩
          · rw [HPD.out, HFI.out] at h
            injection h with h
            subst h
            exact ⟨VB, an + 1, vd, rfl, by omega, DnIn.of_own HR5.out HL5.out HT5.out⟩
          · rw [HPD.out, HFI.out] at h
            cases h
      · have hg16 : (16 : Int) ≤ (an : Int) := by omega
        have hg16b : decide ((16 : Int) ≤ (an : Int)) = true := by simp; omega
        have HR := Lib.hid (HBAD.out (w3.alloc (.cells #[tv s, tv x] 53)) (HKW3.out.alloc _) (by rw [HV.out.inv]; exact nameD_full (by rw [HV.out.len]; exact h16)))
        clear hq1 hq2 hp hdr hkn hnN h16 ha16
        unfold tv at HR ⊢
        go_wp2_with fail
        refine bodyPost_ret (results_tmp2 rfl _ _ _) rfl ?_
        exact HR.out
end Go.Proofs.YtmgkejgmkfeccaaDoor
/- dn: the name of any text, or that it is none's: the law. -/
namespace Go.Proofs.YtmgkejgmkfeccaaDoor
open Go.RowKit Go.Shelf
set_option linter.unusedVariables false
set_option linter.unusedSimpArgs false
set_option maxRecDepth 100000

set_option maxHeartbeats 8000000 in
theorem dnparses_keeps (T : List UInt8) (w : World) (hs : SynAt w) :
    Calls Tryd.prog 3 #[.string ⟨T.toArray⟩] w fun e w' => e = .returned (.bool true) ∧ Keeps [] w w' := by
  have HKN := Lib.hid (fun X (hk : Keeps [] w X) => known6_is X (hs.keep hk (by simp)))
  obtain ⟨N, hN⟩ : ∃ N, T.length = N := ⟨_, rfl⟩
  have hTL : (⟨T.toArray⟩ : ByteArray).size = N := hN
  rcases Nat.lt_or_ge 2000 N with h1 | h1
  · have hg : (2000 : Int) < (N : Int) := by omega
    clear hs hN h1
    go_enter Tryd.func3, Tryd.ntmps3
    go_wp2_with fail
    refine (HKN.out _ (Keeps.refl _ _)).mono ?_
    rintro e w1 ⟨rfl, hk⟩
    have HK := Lib.hid hk
    clear hk
    go_wp2_with fail
    go_ret
    exact ⟨rfl, HK.out⟩
  · have hg : ¬ (2000 : Int) < (N : Int) := by omega
    have HPA := Lib.hid (parse_is T w (by omega) hs)
    have HRP := Lib.hid (fun X => rparse_is T X (by omega))
    have HPS := Lib.hid (parse_same T)
    clear hs hN h1
    go_enter Tryd.func3, Tryd.ntmps3
    go_wp2_with fail
    refine HPA.out.mono ?_
    rintro e w1 ⟨ha1, ha2, hk1⟩
    have HK1 := Lib.hid hk1
    clear hk1
    cases hp : parseL T with
    | none =>
      obtain rfl := ha2 hp
      have HP : Hid (parseD T = none) := by show _ = _; rw [HPS.out]; exact hp
      clear ha1 ha2 hp
      go_wp2_with fail
      refine (HRP.out _).mono ?_
      rintro e w2 ⟨_, hb2, hk2⟩
      obtain rfl := hb2 HP.out
      have HK2 := Lib.hid (HK1.out.trans' hk2)
      clear hb2 hk2
      go_wp2_with fail
      refine (HKN.out _ HK2.out).mono ?_
      rintro e w3 ⟨rfl, hk3⟩
      have HK3 := Lib.hid (HK2.out.trans' hk3)
      clear hk3
      go_wp2_with fail
      go_ret
      exact ⟨rfl, HK3.out⟩
    | some d =>
      obtain ⟨A, n, c, rfl, hn, hd⟩ := ha1 d hp
      have HP : Hid (parseD T = some d) := by show _ = _; rw [HPS.out]; exact hp
      have HD := Lib.hid hd
      have HN := Lib.hid hn
      clear ha1 ha2 hp hd hn
      go_wp2_with fail
      refine (HRP.out _).mono ?_
      rintro e w2 ⟨hb1, _, hk2⟩
      obtain ⟨B, m, c', rfl, hm, hd2⟩ := hb1 d HP.out
      have HSM := Lib.hid (rsame6_is A B n m c c' d d w2 (HD.out.grow hk2) hd2 (by have := HN.out; omega))
      rw [show (d == d) = true by simp] at HSM
      have HK2 := Lib.hid (HK1.out.trans' hk2)
      clear hb1 hk2 hd2 hm
      go_wp2_with fail
      refine HSM.out.mono ?_
      rintro e w3 ⟨rfl, hk3⟩
      have HK3 := Lib.hid (HK2.out.trans' hk3)
      clear hk3
      go_wp2_with fail
      refine (HKN.out _ HK3.out).mono ?_
      rintro e w4 ⟨rfl, hk4⟩
      have HK4 := Lib.hid (HK3.out.trans' hk4)
      clear hk4
      go_wp2_with fail
      go_ret
      exact ⟨rfl, HK4.out⟩
theorem dnparses_any (T : List UInt8) (w : World) (hs : SynAt w) :
    Calls Tryd.prog 3 #[.string ⟨T.toArray⟩] w fun e w' => e = .returned (.bool true) ∧ Below w.heap.size w w' :=
  (dnparses_keeps T w hs).mono fun e w' ⟨he, hk⟩ => ⟨he, hk.below (Nat.le_refl _) (by simp)⟩
end Go.Proofs.YtmgkejgmkfeccaaDoor
