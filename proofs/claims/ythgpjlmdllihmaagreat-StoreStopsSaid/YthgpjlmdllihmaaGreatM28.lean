/- Texts of one proof, laid together: U35 U36. -/
import Derived.Test.YthgpjlmdllihmaaGreatM27
/- Put: what it refuses. -/
namespace Go.Proofs.YthgpjlmdllihmaaGreat
open Go.RowKit Go.Shelf Go.Maps
set_option linter.unusedVariables false
set_option linter.unusedSimpArgs false
set_option maxRecDepth 100000

/-- What Put answers where the disk refuses nothing. -/
def putN (T : Tab) (l : List Chg) (br : Bool) (half : Nat) : Int :=
  if chgsOk l = false then 2 else if 200 < (behindT T l).length then 3 else if br = true then 140 else if tweight (behindT T l) + 64 ≤ half then 0 else 141

theorem maybeput_any (A : Option Addr) (len c : Nat) (l : List Chg) (w : World) (hm : len ≤ 9223372036854775807) (hl : ChgsAt w A len l) : Calls Tryz.prog 24 #[.slice A len c] w fun e w' => e = .returned (.bool (chgsOk l)) ∧ Keeps [] w w' := by
  by_cases h : len ≤ 100
  · exact maybeput_in A len c l w h hl
  · refine (maybeput_no A len c w (by omega) hm).mono ?_
    rintro e w' ⟨rfl, rfl⟩
    refine ⟨?_, Keeps.refl _ _⟩
    have : chgsOk l = false := by
      unfold chgsOk
      rw [hl.len, show decide (len ≤ 100) = false by simpa using h]
      rfl
    rw [this]

theorem put_arg {w : World} {s : St} (A : Option Addr) (len c : Nat) (l : List Chg) (h : StAt w s) (hm : len ≤ 9223372036854775807) (hl : ChgsAt w A len l) (hn : chgsOk l = false) :
    Calls Tryz.prog 9 #[.pointer (some ⟨s.p, 0, none⟩), .slice A len c] w fun e w' => e = .returned (.int .i64 2) ∧ Keeps [] w w' := by
  have HM := Lib.hid (missing_ok h)
  have HB := Lib.hid (maybeput_any A len c l w hm hl)
  rw [hn] at HB
  clear h hl
  go_enter Tryz.func9, Tryz.ntmps9
  go_wp2
  refine wp_scope_once 0 rfl ?_
  go_wp2_with fail
  refine HM.out.mono ?_
  rintro e w1 ⟨rfl, rfl⟩
  go_wp2_with fail
  refine HB.out.mono ?_
  rintro e w1 ⟨rfl, hk⟩
  have HK := Lib.hid hk
  clear hk
  go_wp2_with fail
  go_step3
  refine ⟨rfl, ?_⟩
  go_wp2
  rw [Exit.noGoto_ret]
  go_ret
  exact ⟨rfl, HK.out⟩

theorem chgsOk_few {l : List Chg} (h : chgsOk l = true) : l.length ≤ 100 := by
  unfold chgsOk at h
  simp only [Bool.and_eq_true, decide_eq_true_eq] at h
  exact h.1

theorem put_long {w : World} {s : St} {T : Tab} (A : Option Addr) (len c : Nat) (l : List Chg) (h : StAt w s) (ht : TabV w s.m T) (hT : T.length ≤ 10000) (hm : len ≤ 9223372036854775807) (hl : ChgsAt w A len l) (hn : chgsOk l = true) (h2 : 200 < (behindT T l).length) :
    Calls Tryz.prog 9 #[.pointer (some ⟨s.p, 0, none⟩), .slice A len c] w fun e w' => e = .returned (.int .i64 3) ∧ Keeps [] w w' := by
  have HM := Lib.hid (missing_ok h)
  have HB := Lib.hid (maybeput_any A len c l w hm hl)
  rw [hn] at HB
  have hf := chgsOk_few hn
  have hll := hl.len
  have HH := Lib.hid (fun X (hk : Keeps [] w X) => behind_is s.m T A len c l X (ht.grow hk) hT (by omega) (hl.grow hk))
  have HC := Lib.hid (fun X (hk : Keeps [] w X) => (show StAt X s from StAt.keep h hk (by simp)).cell)
  clear h hl ht
  go_enter Tryz.func9, Tryz.ntmps9
  go_wp2
  refine wp_scope_once 0 rfl ?_
  go_wp2_with fail
  refine HM.out.mono ?_
  rintro e w1 ⟨rfl, rfl⟩
  go_wp2_with fail
  refine HB.out.mono ?_
  rintro e w1 ⟨rfl, hk⟩
  have HK := Lib.hid hk
  obtain ⟨c0, c1, c2, c3, c4⟩ := HC.out w1 hk
  clear hk
  go_wp2_with fail
  refine (HH.out w1 HK.out).mono ?_
  rintro e w2 ⟨b, rfl, hb, hbs, hk⟩
  have hln := run_tlen (m := some b) hb 60 Tryz.underlying60 3
  have HK2 := Lib.hid (HK.out.trans' hk)
  have h200 : (200 : Int) < ((behindT T l).length : Int) := by omega
  clear hk
  go_wp2_with fail
  go_step3
  refine ⟨rfl, ?_⟩
  go_wp2
  rw [Exit.noGoto_ret]
  go_ret
  exact ⟨rfl, HK2.out⟩

theorem put_broken {w : World} {s : St} {T : Tab} (A : Option Addr) (len c : Nat) (l : List Chg) (h : StAt w s) (ht : TabV w s.m T) (hT : T.length ≤ 10000) (hm : len ≤ 9223372036854775807) (hl : ChgsAt w A len l) (hn : chgsOk l = true) (h2 : ¬ 200 < (behindT T l).length) (hbr : s.br = true) :
    Calls Tryz.prog 9 #[.pointer (some ⟨s.p, 0, none⟩), .slice A len c] w fun e w' => e = .returned (.int .i64 140) ∧ Keeps [] w w' := by
  have HM := Lib.hid (missing_ok h)
  have HB := Lib.hid (maybeput_any A len c l w hm hl)
  rw [hn] at HB
  have hf := chgsOk_few hn
  have hll := hl.len
  have HH := Lib.hid (fun X (hk : Keeps [] w X) => behind_is s.m T A len c l X (ht.grow hk) hT (by omega) (hl.grow hk))
  have HC := Lib.hid (fun X (hk : Keeps [] w X) => (show StAt X s from StAt.keep h hk (by simp)).cell)
  clear h hl ht
  go_enter Tryz.func9, Tryz.ntmps9
  go_wp2
  refine wp_scope_once 0 rfl ?_
  go_wp2_with fail
  refine HM.out.mono ?_
  rintro e w1 ⟨rfl, rfl⟩
  go_wp2_with fail
  refine HB.out.mono ?_
  rintro e w1 ⟨rfl, hk⟩
  have HK := Lib.hid hk
  obtain ⟨c0, c1, c2, c3, c4⟩ := HC.out w1 hk
  clear hk
  go_wp2_with fail
  refine (HH.out w1 HK.out).mono ?_
  rintro e w2 ⟨b, rfl, hb, hbs, hk⟩
  have hln := run_tlen (m := some b) hb 60 Tryz.underlying60 3
  have HK2 := Lib.hid (HK.out.trans' hk)
  have h200 : ¬ (200 : Int) < ((behindT T l).length : Int) := by omega
  obtain ⟨_, _, _, _, d4⟩ := HC.out w2 HK2.out
  rw [hbr] at d4
  clear hk c0 c1 c2 c3 c4
  go_wp2_with fail
  go_step3
  refine ⟨rfl, ?_⟩
  go_wp2
  rw [Exit.noGoto_ret]
  go_ret
  exact ⟨rfl, HK2.out⟩

theorem put_room {w : World} {s : St} {k : Dk} {T : Tab} (A : Option Addr) (len c : Nat) (l : List Chg) (h : StAt w s) (hd : DiskAt w k) (hp : s.dp = k.p) (ht : TabV w s.m T) (hT : T.length ≤ 10000) (hm : len ≤ 9223372036854775807) (hl : ChgsAt w A len l) (hn : chgsOk l = true) (h2 : ¬ 200 < (behindT T l).length) (hbr : s.br = false) (hwt : tweight (behindT T l) ≤ 1000000000) (hro : ¬ tweight (behindT T l) + 64 ≤ k.S.length / 2) :
    Calls Tryz.prog 9 #[.pointer (some ⟨s.p, 0, none⟩), .slice A len c] w fun e w' => e = .returned (.int .i64 141) ∧ Keeps [] w w' := by
  have HM := Lib.hid (missing_ok h)
  have HB := Lib.hid (maybeput_any A len c l w hm hl)
  rw [hn] at HB
  have hf := chgsOk_few hn
  have hll := hl.len
  have HH := Lib.hid (fun X (hk : Keeps [] w X) => behind_is s.m T A len c l X (ht.grow hk) hT (by omega) (hl.grow hk))
  have HC := Lib.hid (fun X (hk : Keeps [] w X) => (show StAt X s from StAt.keep h hk (by simp)).cell)
  have HR := Lib.hid (fun X (hk : Keeps [] w X) b (hb : MapAt X b (behindT T l)) => hasroom_is (some b) (behindT T l) k X hb hwt (hd.grow hk))
  have hdec : decide (tweight (behindT T l) + 64 ≤ k.S.length / 2) = false := by simpa using hro
  rw [hdec] at HR
  clear h hl ht hd hdec
  go_enter Tryz.func9, Tryz.ntmps9
  go_wp2
  refine wp_scope_once 0 rfl ?_
  go_wp2_with fail
  refine HM.out.mono ?_
  rintro e w1 ⟨rfl, rfl⟩
  go_wp2_with fail
  refine HB.out.mono ?_
  rintro e w1 ⟨rfl, hk⟩
  have HK := Lib.hid hk
  obtain ⟨c0, c1, c2, c3, c4⟩ := HC.out w1 hk
  clear hk
  go_wp2_with fail
  refine (HH.out w1 HK.out).mono ?_
  rintro e w2 ⟨b, rfl, hb, hbs, hk⟩
  have hln := run_tlen (m := some b) hb 60 Tryz.underlying60 3
  have HK2 := Lib.hid (HK.out.trans' hk)
  have h200 : ¬ (200 : Int) < ((behindT T l).length : Int) := by omega
  obtain ⟨_, _, _, d3, d4⟩ := HC.out w2 HK2.out
  rw [hbr] at d4
  rw [hp] at d3
  have HBM := Lib.hid hb
  clear hk c0 c1 c2 c3 c4 hb
  go_wp2_with fail
  refine (HR.out w2 HK2.out b HBM.out).mono ?_
  rintro e w3 ⟨rfl, hk⟩
  have HK3 := Lib.hid (HK2.out.trans' hk)
  clear hk
  go_wp2_with fail
  go_step3
  refine ⟨rfl, ?_⟩
  go_wp2
  rw [Exit.noGoto_ret]
  go_ret
  exact ⟨rfl, HK3.out⟩

end Go.Proofs.YthgpjlmdllihmaaGreat
/- Put, done; a store in memory. -/
namespace Go.Proofs.YthgpjlmdllihmaaGreat
open Go.RowKit Go.Shelf Go.Maps
set_option linter.unusedVariables false
set_option linter.unusedSimpArgs false
set_option maxRecDepth 100000

/-- Nothing but changes and what was there gets in. -/
theorem mem_tins {x y : List UInt8 × List UInt8} : ∀ {T : Tab}, y ∈ tins x T → y = x ∨ y ∈ T
  | [], h => by simp [tins] at h; exact .inl h
  | z :: r, h => by
    unfold tins at h
    split at h
    · rcases List.mem_cons.1 h with h | h
      · exact .inl h
      · exact .inr h
    · rcases List.mem_cons.1 h with h | h
      · exact .inr (by rw [h]; simp)
      · rcases mem_tins h with h | h
        · exact .inl h
        · exact .inr (List.mem_cons_of_mem _ h)
theorem mem_behindT {y : List UInt8 × List UInt8} : ∀ (l : List Chg) (T : Tab), y ∈ behindT T l → y ∈ T ∨ ∃ x ∈ l, y = (x.k, x.v)
  | [], T, h => .inl h
  | x :: r, T, h => by
    rcases mem_behindT r (chgT T x) h with h | ⟨z, hz, rfl⟩
    · unfold chgT at h
      split at h
      · exact .inl ((List.mem_filter.1 h).1)
      · rcases mem_tins h with h | h
        · exact .inr ⟨x, by simp, h⟩
        · exact .inl ((List.mem_filter.1 h).1)
    · exact .inr ⟨z, List.mem_cons_of_mem _ hz, rfl⟩

theorem good_behind {T : Tab} {l : List Chg} (hT : Good T) (hl : chgsOk l = true) (hr : Rising (behindT T l)) (h2 : (behindT T l).length ≤ 200) : Good (behindT T l) := by
  refine ⟨hr, h2, fun p hp => ?_⟩
  rcases mem_behindT l T hp with h | ⟨x, hx, rfl⟩
  · exact hT.key p h
  · unfold chgsOk at hl
    simp only [Bool.and_eq_true, decide_eq_true_eq, List.all_eq_true] at hl
    have := hl.2.1 x hx
    unfold Chg.ok at this
    simp only [Bool.and_eq_true, decide_eq_true_eq] at this
    exact ⟨this.1.1.1, this.1.1.2, this.1.2⟩

theorem put_done {w : World} {s : St} {k : Dk} {T : Tab} (A : Option Addr) (len c : Nat) (l : List Chg) (h : StAt w s) (hd : DiskAt w k) (hp : s.dp = k.p) (hsp : s.p ∉ k.all) (ht : TabV w s.m T) (hm : len ≤ 9223372036854775807) (hl : ChgsAt w A len l) (hn : chgsOk l = true) (h2 : ¬ 200 < (behindT T l).length) (hbr : s.br = false) (hro : tweight (behindT T l) + 64 ≤ k.S.length / 2) (hG : Good T) (hat : s.at_ ≤ k.S.length / 2) (htu : s.turn < 4294967296) (hW : k.W.length ≤ 900000) (hdn : k.done ≤ 4000000000000000000) :
    Calls Tryz.prog 9 #[.pointer (some ⟨s.p, 0, none⟩), .slice A len c] w fun e w' => ∃ n k' b, e = .returned (.int .i64 n) ∧ Lain w s k (behindT T l) (some b) n k' w' ∧ MapAt w' b (behindT T l) ∧ w.heap.size ≤ b ∧ b ∉ k'.all := by
  have hbig := hd.big
  have hT : T.length ≤ 10000 := by have := hG.few; omega
  have HM := Lib.hid (missing_ok h)
  have HB := Lib.hid (maybeput_any A len c l w hm hl)
  rw [hn] at HB
  have hf := chgsOk_few hn
  have hll := hl.len
  have HH := Lib.hid (fun X (hk : Keeps [] w X) => behind_is s.m T A len c l X (ht.grow hk) hT (by omega) (hl.grow hk))
  have HC := Lib.hid (fun X (hk : Keeps [] w X) => (show StAt X s from StAt.keep h hk (by simp)).cell)
  have HR := Lib.hid (fun X (hk : Keeps [] w X) b (hb : MapAt X b (behindT T l)) => hasroom_is (some b) (behindT T l) k X hb (by omega) (hd.grow hk))
  have hdec : decide (tweight (behindT T l) + 64 ≤ k.S.length / 2) = true := by simpa using hro
  rw [hdec] at HR
  have HL := Lib.hid (fun X (hk : Keeps [] w X) b (hb : MapAt X b (behindT T l)) => lay_is (m := some b) (show StAt X s from StAt.keep h hk (by simp)) (hd.grow hk) hp hsp hb (good_behind hG hn (MapAt.rising hb) (by omega)) hro hat htu hW hdn)
  have hslt := h.lt
  have hklt := hd.lt
  have HSL := Lib.hid hslt
  have HKL := Lib.hid hklt
  clear h hl ht hd hdec hslt hklt
  go_enter Tryz.func9, Tryz.ntmps9
  go_wp2
  refine wp_scope_once 0 rfl ?_
  go_wp2_with fail
  refine HM.out.mono ?_
  rintro e w1 ⟨rfl, rfl⟩
  go_wp2_with fail
  refine HB.out.mono ?_
  rintro e w1 ⟨rfl, hk⟩
  have HK := Lib.hid hk
  obtain ⟨c0, c1, c2, c3, c4⟩ := HC.out w1 hk
  clear hk
  go_wp2_with fail
  refine (HH.out w1 HK.out).mono ?_
  rintro e w2 ⟨b, rfl, hb, hbs, hk⟩
  have hln := run_tlen (m := some b) hb 60 Tryz.underlying60 3
  have HK2 := Lib.hid (HK.out.trans' hk)
  have h200 : ¬ (200 : Int) < ((behindT T l).length : Int) := by omega
  obtain ⟨_, _, _, d3, d4⟩ := HC.out w2 HK2.out
  rw [hbr] at d4
  rw [hp] at d3
  have HBM := Lib.hid hb
  have HKs := Lib.hid (Nat.le_trans HK.out.size hbs)
  clear hk c0 c1 c2 c3 c4 hb hbs
  go_wp2_with fail
  refine (HR.out w2 HK2.out b HBM.out).mono ?_
  rintro e w3 ⟨rfl, hk⟩
  have HK3 := Lib.hid (HK2.out.trans' hk)
  have HBM3 := Lib.hid (MapAt.keep HBM.out hk (by simp))
  clear hk
  go_wp2_with fail
  refine (HL.out w3 HK3.out b HBM3.out).mono ?_
  rintro e w4 ⟨n, k', rfl, hla⟩
  have HLA := Lib.hid hla
  clear hla
  go_wp2_with fail
  simp only [Exit.jump]
  go_ret
  have hsz := HK3.out.size
  have hbl : b < w3.heap.size := World.ownsMap.lt HBM3.out
  have hbk : b ∉ k.all := fun hm => by have := HKL.out b hm; have := HKs.out; omega
  have hbp : b ≠ s.p := by have := HSL.out; have := HKs.out; omega
  refine ⟨n, k', b, rfl, HLA.out.from HK3.out, MapAt.keep HBM3.out HLA.out.keeps (fun hm => ?_), HKs.out, fun hm => ?_⟩
  · rcases List.mem_cons.1 hm with h | h
    · exact hbp h
    · exact hbk (fp_sub h)
  · rcases HLA.out.all b hm with h | h
    · exact hbk h
    · omega

end Go.Proofs.YthgpjlmdllihmaaGreat
