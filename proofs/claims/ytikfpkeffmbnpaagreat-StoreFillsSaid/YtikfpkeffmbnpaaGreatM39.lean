/- Texts of one proof, laid together: U52 U53. -/
import Derived.Test.YtikfpkeffmbnpaaGreatM38
import Derived.Deep.RegionHeld3
/- The document's Put. -/
namespace Go.Proofs.YtikfpkeffmbnpaaGreat
open Go.RowKit Go.Shelf Go.Maps
set_option linter.unusedVariables false
set_option linter.unusedSimpArgs false
set_option maxRecDepth 100000

/-- The document's store, as a value. -/
def refV (A : Option Addr) (n c : Nat) (size : Nat) (br : Bool) : Value := .agg #[.slice A n c, .int .i64 (size : Int), .bool br]
/-- The table that its Put tells. -/
def refT (T : Tab) (l : List Chg) (br : Bool) (half : Nat) : Tab := if putN T l br half = 0 then behindT T l else T

theorem behind_weight (l : List Chg) : ∀ T : Tab, tweight (behindT T l) ≤ tweight T + (16 * l.length + csize l) := by
  induction l with
  | nil => intro T; simp [behindT, csize]
  | cons x r ih =>
    intro T
    have h1 := ih (chgT T x)
    have h3 : tweight (chgT T x) ≤ tweight T + (16 + (x.k.length + x.v.length)) := tweight_chg T x
    have h4 : csize (x :: r) = x.k.length + x.v.length + csize r := by simp [csize]
    show tweight (behindT (chgT T x) r) ≤ _
    rw [h4, List.length_cons]
    omega
theorem behind_light {T : Tab} {l : List Chg} (hG : Good T) (hok : chgsOk l = true) : tweight (behindT T l) ≤ 1000000000 := by
  have h1 := behind_weight l T
  have h3 := csize_le (l := l) (by unfold chgsOk at hok; simp only [Bool.and_eq_true] at hok; exact hok.2.1)
  have h4 := chgsOk_few hok
  have h5 := tweight_good hG
  have h6 := hG.few
  omega

set_option maxHeartbeats 1000000 in
theorem rput_is (A : Option Addr) (n c : Nat) (size : Nat) (br : Bool) (T : Tab) (B : Option Addr) (m d : Nat) (l : List Chg) (w : World) (hA : PrsAt w A n T) (hB : ChgsAt w B m l) (hm : m ≤ 9223372036854775807) (hG : Good T) (hs : size ≤ 1000000) :
    Calls Tryz.prog 14 #[refV A n c size br, .slice B m d] w fun e w' => ∃ A' n' c', e = .returned (.tuple #[.slice A' n' c', .int .i64 (putN T l br (size / 2))]) ∧ PrsAt w' A' n' (refT T l br (size / 2)) ∧ (A' = A ∧ refT T l br (size / 2) = T ∨ ∀ a, A' = some a → w.heap.size ≤ a.block) ∧ Keeps [] w w' := by
  have hlA := hA.len
  have hlB := hB.len
  have hfew := hG.few
  obtain ⟨W0, hW0⟩ : ∃ W0, w.alloc (.cells #[.slice A n c, .int .i64 (size : Int), .bool br] 34) = W0 := ⟨_, rfl⟩
  have k0 : Keeps [] w W0 := by rw [← hW0]; exact (Keeps.refl [] w).alloc _
  have b0 : W0.heap[w.heap.size]? = some (.cells #[.slice A n c, .int .i64 (size : Int), .bool br] 34 (0, 0)) := by rw [← hW0]; exact heap_alloc_new w _
  obtain ⟨⟨x0, x1, x2⟩, _⟩ := three_facts b0
  have HF := Lib.hid (fun X (hk : Keeps [] W0 X) => (three_facts (blk_keep b0 hk (by simp))).1)
  have HK0 := Lib.hid k0
  have HA := Lib.hid (fun X (hk : Keeps [] W0 X) => hA.grow (k0.trans' hk))
  have HR := Lib.hid (rright_is B m d l W0 (hB.grow k0) hm)
  unfold refV
  cases hok : chgsOk l
  · rw [hok] at HR
    have hN : putN T l br (size / 2) = 2 := by unfold putN; rw [if_pos hok]
    have HT : Hid (refT T l br (size / 2) = T) := by show _ = _; unfold refT; rw [hN, if_neg (by decide)]
    rw [hN]
    clear hA hB k0 b0 x1 x2 x0
    go_enter Tryz.func14, Tryz.ntmps14
    go_wp2_with fail
    refine HR.out.mono ?_
    rintro e w1 ⟨rfl, hk⟩
    have HK1 := Lib.hid hk
    obtain ⟨y0, y1, y2⟩ := HF.out w1 hk
    clear hk
    go_wp2_with fail
    go_ret2
    exact ⟨A, n, c, rfl, by rw [HT.out]; exact HA.out _ HK1.out, .inl ⟨rfl, HT.out⟩, HK0.out.trans' HK1.out⟩
  · rw [hok] at HR
    have hok' : ¬ chgsOk l = false := by rw [hok]; decide
    have hl100 := chgsOk_few hok
    have HB := Lib.hid (fun X (hk : Keeps [] W0 X) => rbehind_is A n c T B m d l X (hA.grow (k0.trans' hk)) (hB.grow (k0.trans' hk)) (by omega) (by omega) hG.rise)
    have hlight := behind_light hG hok
    have hblen := behindT_len l T
    by_cases h2 : 200 < (behindT T l).length
    · have hN : putN T l br (size / 2) = 3 := by unfold putN; rw [if_neg hok', if_pos h2]
      have HT : Hid (refT T l br (size / 2) = T) := by show _ = _; unfold refT; rw [hN, if_neg (by decide)]
      rw [hN]
      clear hA hB k0 b0 x1 x2 x0
      go_enter Tryz.func14, Tryz.ntmps14
      go_wp2_with fail
      refine HR.out.mono ?_
      rintro e w1 ⟨rfl, hk⟩
      have HK1 := Lib.hid hk
      obtain ⟨y0, y1, y2⟩ := HF.out w1 hk
      clear hk
      go_wp2_with fail
      refine (HB.out w1 HK1.out).mono ?_
      rintro e w2 ⟨A2, n2, c2, rfl, hp2, he2, hk⟩
      have HE2 := Lib.hid he2
      clear he2
      have HK2 := Lib.hid (HK1.out.trans' hk)
      obtain ⟨y0, y1, y2⟩ := HF.out w2 (HK1.out.trans' hk)
      have hl2 := hp2.len
      have h200 : (200 : Int) < (n2 : Int) := by omega
      clear hk hp2
      go_wp2_with fail
      go_ret2
      exact ⟨A, n, c, rfl, by rw [HT.out]; exact HA.out _ HK2.out, .inl ⟨rfl, HT.out⟩, HK0.out.trans' HK2.out⟩
    · cases br
      · have HW := Lib.hid (fun X A2 n2 c2 (hp : PrsAt X A2 n2 (behindT T l)) => rweight_is A2 n2 c2 (behindT T l) X hp (by have := hp.len; omega) hlight)
        by_cases hro : tweight (behindT T l) + 64 ≤ size / 2
        · have hN : putN T l false (size / 2) = 0 := by unfold putN; rw [if_neg hok', if_neg h2, if_neg (by decide), if_pos hro]
          have HT : Hid (refT T l false (size / 2) = behindT T l) := by show _ = _; unfold refT; rw [hN, if_pos rfl]
          have hq : ¬ ((size : Int).tdiv 2 < (tweight (behindT T l) : Int) + 64) := by rw [Int.tdiv_eq_ediv_of_nonneg (by omega)]; omega
          have hwd : IntKind.i64.wrap ((size : Int).tdiv 2) = (size : Int).tdiv 2 := IntWalk.i64_in _ (by rw [Int.tdiv_eq_ediv_of_nonneg (by omega)]; omega)
          rw [hN]
          obtain ⟨sz, hsz⟩ : ∃ sz : Int, (size : Int) = sz := ⟨_, rfl⟩
          rw [hsz] at HF hq hwd hW0
          rw [hsz]
          clear hA hB k0 b0 x1 x2 x0 hs hro
          go_enter Tryz.func14, Tryz.ntmps14
          go_wp2_with fail
          refine HR.out.mono ?_
          rintro e w1 ⟨rfl, hk⟩
          have HK1 := Lib.hid hk
          obtain ⟨y0, y1, y2⟩ := HF.out w1 hk
          clear hk
          go_wp2_with fail
          refine (HB.out w1 HK1.out).mono ?_
          rintro e w2 ⟨A2, n2, c2, rfl, hp2, he2, hk⟩
          have HE2 := Lib.hid he2
          clear he2
          have HK2 := Lib.hid (HK1.out.trans' hk)
          obtain ⟨y0, y1, y2⟩ := HF.out w2 (HK1.out.trans' hk)
          have hl2 := hp2.len
          have h200 : ¬ (200 : Int) < (n2 : Int) := by omega
          have HP2 := Lib.hid hp2
          have hw64 : IntKind.i64.wrap ((tweight (behindT T l) : Int) + 64) = (tweight (behindT T l) : Int) + 64 := IntWalk.i64_in _ (by omega)
          generalize tweight (behindT T l) = tw at *
          clear hk hp2
          go_wp2_with fail
          go_region_held3 (fun w' => w'.cell? ⟨w.heap.size, 1, none⟩ = some (.int .i64 sz)) (first | exact y1 | exact y3 | go_keep)
            ((go_at_call 35; refine (HW.out _ A2 n2 c2 (HP2.out.grow (by repeat (first | exact Keeps.refl [] _ | refine Keeps.drew ?_)))).mono ?_; rintro e w3 ⟨rfl, hk3⟩; have HK3 : Hid (Keeps [] w2 w3) := Keeps.trans' (by repeat (first | exact Keeps.refl [] _ | refine Keeps.drew ?_)) hk3; have y3 := (HF.out w3 (HK2.out.trans' HK3.out)).2.1; clear hk3))
          all_goals
            have HKW := HK3
            obtain ⟨y0, y1, y2⟩ := HF.out w3 (HK2.out.trans' HK3.out)
            go_wp2_with fail
            go_ret2
            exact ⟨A2, n2, c2, rfl, by rw [HT.out]; exact HP2.out.grow (HKW.out), HE2.out.imp (fun h => ⟨h.1, by rw [HT.out]; exact h.2⟩) (fun h a ha => Nat.le_trans (Nat.le_trans HK0.out.size HK1.out.size) (h a ha)), HK0.out.trans' (HK2.out.trans' HKW.out)⟩
        · have hN : putN T l false (size / 2) = 141 := by unfold putN; rw [if_neg hok', if_neg h2, if_neg (by decide), if_neg hro]
          have HT : Hid (refT T l false (size / 2) = T) := by show _ = _; unfold refT; rw [hN, if_neg (by decide)]
          have hq : ((size : Int).tdiv 2 < (tweight (behindT T l) : Int) + 64) := by rw [Int.tdiv_eq_ediv_of_nonneg (by omega)]; omega
          have hwd : IntKind.i64.wrap ((size : Int).tdiv 2) = (size : Int).tdiv 2 := IntWalk.i64_in _ (by rw [Int.tdiv_eq_ediv_of_nonneg (by omega)]; omega)
          rw [hN]
          obtain ⟨sz, hsz⟩ : ∃ sz : Int, (size : Int) = sz := ⟨_, rfl⟩
          rw [hsz] at HF hq hwd hW0
          rw [hsz]
          clear hA hB k0 b0 x1 x2 x0 hs hro
          go_enter Tryz.func14, Tryz.ntmps14
          go_wp2_with fail
          refine HR.out.mono ?_
          rintro e w1 ⟨rfl, hk⟩
          have HK1 := Lib.hid hk
          obtain ⟨y0, y1, y2⟩ := HF.out w1 hk
          clear hk
          go_wp2_with fail
          refine (HB.out w1 HK1.out).mono ?_
          rintro e w2 ⟨A2, n2, c2, rfl, hp2, he2, hk⟩
          have HE2 := Lib.hid he2
          clear he2
          have HK2 := Lib.hid (HK1.out.trans' hk)
          obtain ⟨y0, y1, y2⟩ := HF.out w2 (HK1.out.trans' hk)
          have hl2 := hp2.len
          have h200 : ¬ (200 : Int) < (n2 : Int) := by omega
          have HP2 := Lib.hid hp2
          have hw64 : IntKind.i64.wrap ((tweight (behindT T l) : Int) + 64) = (tweight (behindT T l) : Int) + 64 := IntWalk.i64_in _ (by omega)
          generalize tweight (behindT T l) = tw at *
          clear hk hp2
          go_wp2_with fail
          go_region_held3 (fun w' => w'.cell? ⟨w.heap.size, 1, none⟩ = some (.int .i64 sz)) (first | exact y1 | exact y3 | go_keep)
            ((go_at_call 35; refine (HW.out _ A2 n2 c2 (HP2.out.grow (by repeat (first | exact Keeps.refl [] _ | refine Keeps.drew ?_)))).mono ?_; rintro e w3 ⟨rfl, hk3⟩; have HK3 : Hid (Keeps [] w2 w3) := Keeps.trans' (by repeat (first | exact Keeps.refl [] _ | refine Keeps.drew ?_)) hk3; have y3 := (HF.out w3 (HK2.out.trans' HK3.out)).2.1; clear hk3))
          all_goals
            have HKW := HK3
            obtain ⟨y0, y1, y2⟩ := HF.out w3 (HK2.out.trans' HK3.out)
            go_wp2_with fail
            go_ret2
            exact ⟨A, n, c, rfl, by rw [HT.out]; exact HA.out _ (HK2.out.trans' HKW.out), .inl ⟨rfl, HT.out⟩, HK0.out.trans' (HK2.out.trans' HKW.out)⟩
      · have hN : putN T l true (size / 2) = 140 := by unfold putN; rw [if_neg hok', if_neg h2, if_pos rfl]
        have HT : Hid (refT T l true (size / 2) = T) := by show _ = _; unfold refT; rw [hN, if_neg (by decide)]
        rw [hN]
        clear hA hB k0 b0 x1 x2 x0
        go_enter Tryz.func14, Tryz.ntmps14
        go_wp2_with fail
        refine HR.out.mono ?_
        rintro e w1 ⟨rfl, hk⟩
        have HK1 := Lib.hid hk
        obtain ⟨y0, y1, y2⟩ := HF.out w1 hk
        clear hk
        go_wp2_with fail
        refine (HB.out w1 HK1.out).mono ?_
        rintro e w2 ⟨A2, n2, c2, rfl, hp2, he2, hk⟩
        have HE2 := Lib.hid he2
        clear he2
        have HK2 := Lib.hid (HK1.out.trans' hk)
        obtain ⟨y0, y1, y2⟩ := HF.out w2 (HK1.out.trans' hk)
        have hl2 := hp2.len
        have h200 : ¬ (200 : Int) < (n2 : Int) := by omega
        clear hk hp2
        go_wp2_with fail
        go_ret2
        exact ⟨A, n, c, rfl, by rw [HT.out]; exact HA.out _ HK2.out, .inl ⟨rfl, HT.out⟩, HK0.out.trans' HK2.out⟩

end Go.Proofs.YtikfpkeffmbnpaaGreat
/- The statements' same. -/
namespace Go.Proofs.YtikfpkeffmbnpaaGreat
open Go.RowKit Go.Shelf Go.Maps
set_option linter.unusedVariables false
set_option linter.unusedSimpArgs false
set_option maxRecDepth 100000

theorem get_at {T : Tab} (hG : Good T) {j : Nat} (hj : j < T.length) : tval T (T[j]).1 = (T[j]).2 ∧ thas T (T[j]).1 = true := by
  refine ⟨tget_at hG.rise hj, ?_⟩
  unfold thas tget
  rw [Option.isSome_map, List.find?_isSome]
  exact ⟨T[j], List.getElem_mem hj, by simp⟩
theorem get_empty {T : Tab} (hG : Good T) : tval T [] = [] ∧ thas T [] = false := by
  have h : tget T [] = none := by
    unfold tget
    rw [Option.map_eq_none_iff, List.find?_eq_none]
    intro p hp
    have := (hG.key p hp).1
    have hne : p.1 ≠ [] := fun e => by rw [e] at this; simp at this
    simpa using hne
  unfold tval thas
  rw [h]
  exact ⟨rfl, rfl⟩

set_option maxHeartbeats 1000000 in
theorem same_is {w : World} {s : St} {k : Dk} {T : Tab} (A : Option Addr) (n c : Nat) (U : Tab) (h : StM w s k T) (hA : PrsAt w A n U) (hn : n ≤ 100000) :
    Calls Tryz.prog 20 #[.pointer (some ⟨s.p, 0, none⟩), .slice A n c] w fun e w' => e = .returned (.bool (decide (T = U))) ∧ Keeps [] w w' := by
  have hlA := hA.len
  have hfew := h.good.few
  have HALL := Lib.hid (all_any h)
  have HM := Lib.hid h
  have HA := Lib.hid hA
  clear h hA
  by_cases hTU : T = U
  · subst hTU
    rw [decide_eq_true (rfl : T = T)]
    have hw0 := tweight_good HM.out.good
    have hw : Hid (tweight T ≤ 1000000000) := by show _ ≤ _; omega
    have hn9 : T.length ≤ 9223372036854775807 := by omega
    have HN := Lib.hid hfew
    obtain ⟨tw, htw⟩ : ∃ tw, tweight T = tw := ⟨_, rfl⟩
    have HTW := Lib.hid htw
    subst hlA
    clear hw0 hfew hn htw
    go_enter Tryz.func20, Tryz.ntmps20
    go_wp2_with fail
    refine HALL.out.mono ?_
    rintro e w1 ⟨B, d, rfl, hp, _, hk⟩
    have HK1 := Lib.hid hk
    have HR := Lib.hid (rsame_is B A T.length T.length d c T T w1 hp (HA.out.grow hk) hn9 hn9)
    rw [decide_eq_true (rfl : T = T)] at HR
    clear hp hk
    go_wp2_with fail
    refine HR.out.mono ?_
    rintro e w2 ⟨rfl, hk⟩
    have HK2 := Lib.hid (HK1.out.trans' hk)
    have HW := Lib.hid (weight_ok (HM.out.grow (HK1.out.trans' hk)).st (HM.out.grow (HK1.out.trans' hk)).tab hw.out)
    rw [HTW.out] at HW
    clear hk HR
    go_wp2_with fail
    refine HW.out.mono ?_
    rintro e w3 ⟨rfl, hk⟩
    have HK3 := Lib.hid (HK2.out.trans' hk)
    have HW2 := Lib.hid (rweight_is A T.length c T w3 (HA.out.grow (HK2.out.trans' hk)) (by have := HN.out; omega) hw.out)
    rw [HTW.out] at HW2
    clear hk HW
    go_wp2_with fail
    refine HW2.out.mono ?_
    rintro e w4 ⟨rfl, hk⟩
    have HK4 := Lib.hid (HK3.out.trans' hk)
    clear hk HW2
    go_wp2_with fail
    go_loopw [5] (fun i wr => ∃ j : Nat, i = .int .i64 (j : Int) ∧ j ≤ T.length ∧ Hid (Keeps [] w wr)) (fun i _ => T.length - (intOf i).toNat)
    case atStart => exact ⟨0, rfl, Nat.zero_le _, HK4⟩
    case round =>
      obtain ⟨j, rfl, hj, HK⟩ := hrel
      by_cases hlt : j < T.length
      · have hx : T[j]? = some (T[j]'(by omega)) := List.getElem?_eq_getElem (by omega)
        obtain ⟨b, o, rfl, a1, a2⟩ := (HA.out.grow HK.out).at_ j _ hx
        obtain ⟨g1, g2⟩ := get_at HM.out.good (show j < T.length by omega)
        have hkey := (HM.out.good.key _ (List.getElem_mem (show j < T.length by omega))).2.1
        have HG := Lib.hid (get_ok (T := T) (T[j]'(by omega)).1 (HM.out.grow HK.out).st (HM.out.grow HK.out).tab (by unfold maxLen; omega))
        rw [g1, g2] at HG
        generalize T[j]'(by omega) = p at *
        obtain ⟨pk, pv⟩ := p
        clear hx g1 g2 hkey
        go_wp2_with fail
        refine HG.out.mono ?_
        rintro e w5 ⟨rfl, hk⟩
        have HK5 := Lib.hid (HK.out.trans' hk)
        have d2 := (hk.cell (lt_of_cell a2) (by simp)).trans a2
        clear hk a1 a2 HG
        go_wp2_with fail
        go_roundw
        case rel => exact ⟨j + 1, by go_num, by omega, HK5⟩
        case measure => simp [intOf]; omega
      · obtain hjn : j = T.length := by omega
        subst hjn
        obtain ⟨g1, g2⟩ := get_empty HM.out.good
        have HG := Lib.hid (get_ok (T := T) [] (HM.out.grow HK.out).st (HM.out.grow HK.out).tab (by decide))
        rw [g1, g2] at HG
        clear g1 g2
        go_wp2_with fail
        refine HG.out.mono ?_
        rintro e w5 ⟨rfl, hk⟩
        have HK5 := Lib.hid (HK.out.trans' hk)
        clear hk HG
        go_wp2_with fail
        go_ret
        exact ⟨rfl, HK5.out⟩
  · rw [decide_eq_false hTU]
    go_enter Tryz.func20, Tryz.ntmps20
    go_wp2_with fail
    refine HALL.out.mono ?_
    rintro e w1 ⟨B, d, rfl, hp, _, hk⟩
    have HK1 := Lib.hid hk
    have HR := Lib.hid (rsame_is B A T.length n d c T U w1 hp (HA.out.grow hk) (by omega) (by omega))
    rw [decide_eq_false hTU] at HR
    clear hp hk
    go_wp2_with fail
    refine HR.out.mono ?_
    rintro e w2 ⟨rfl, hk⟩
    have HK2 := Lib.hid (HK1.out.trans' hk)
    clear hk HR
    go_wp2_with fail
    go_ret
    exact ⟨rfl, HK2.out⟩

end Go.Proofs.YtikfpkeffmbnpaaGreat
