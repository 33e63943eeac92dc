
/- ber: a whole number in as few bytes as there may be (two's complement); slices.Reverse of bytes. -/
import Derived.Test.YtbfebljahjmjfaaGreatDoorB1
import Derived.Test.YtbfebljahjmjfaaGreatDoorL8
import Derived.Deep.RegionHeld3
import Derived.Laws.OwnMore
import Derived.Shelf.RegionOpenPlain
namespace Go.Proofs.YtbfebljahjmjfaaGreatDoor
open Go.RowKit
set_option linter.unusedVariables false
set_option linter.unusedSimpArgs false
set_option maxRecDepth 100000

/-- The lowest byte of a number. -/
def n8 (n : Int) : UInt8 := UInt8.ofNat (n % 256).toNat
theorem n8_val (n : Int) : ((n8 n).toNat : Int) = n % 256 := by
  unfold n8
  rw [UInt8.toNat_ofNat']
  have h1 : 0 ≤ n % 256 := Int.emod_nonneg _ (by decide)
  have h2 : n % 256 < 256 := Int.emod_lt_of_pos _ (by decide)
  omega
/-- A number's bytes, the lowest ahead, at most k + 1. -/
def fewL : Nat → Int → List UInt8
  | 0, n => [n8 n]
  | k + 1, n => if -128 ≤ n ∧ n ≤ 127 then [n8 n] else n8 n :: fewL k (n / 256)
theorem fewL_len : ∀ (k : Nat) (n : Int), 1 ≤ (fewL k n).length ∧ (fewL k n).length ≤ k + 1
  | 0, n => by simp [fewL]
  | k + 1, n => by
    have := fewL_len k (n / 256)
    unfold fewL
    split <;> simp <;> omega
/-- A number's bytes, the highest ahead. -/
def fewB (n : Int) : List UInt8 := (fewL 7 n).reverse
theorem fewB_len (n : Int) : 1 ≤ (fewB n).length ∧ (fewB n).length ≤ 8 := by
  unfold fewB
  rw [List.length_reverse]
  exact fewL_len 7 n

theorem src_n8 (w : World) (x : Int) : Src (w.alloc (.cells #[.int .u8 (x % 256)] 5)) (some ⟨w.heap.size, 0, none⟩) 1 [bv (n8 x)] := by
  refine ⟨(fun h => by cases h), fun ad hA j u hu => ?_⟩
  injection hA with hA
  subst hA
  match j, hu with
  | 0, hu =>
    injection hu with hu
    subst hu
    rw [add_at, World.cell?_alloc_new]
    show _ = some (Value.int .u8 ((n8 x).toNat : Int))
    rw [n8_val]
    rfl
theorem grown_own8 {w w' : World} {v : Value} {bs : List Nat} (hg : w.grownBy w' v.ownBlock) (hb : ∀ b, v.ownBlock = some b → b ∈ bs) : Keeps bs w w' := Keeps.of_grown hg (fun x hx => .inl (hb x hx))
theorem keeps_own8 {w a b : World} {e : TypeId} {k n : Nat} {v : Value} {xs : List Value} (h : a.ownsRow w.heap.size e k v n xs) (hk : Keeps [] w a) (hg : a.grownBy b v.ownBlock) : Keeps [] w b :=
  hk.trans (Keeps.of_grown (bs := v.ownBlock.toList) hg (fun x hx => .inl (by rw [hx]; simp))) (fun x hx => .inr (by
    cases hv : v.ownBlock with
    | none => rw [hv] at hx; simp at hx
    | some y => rw [hv] at hx; simp at hx; subst hx; exact (h.lt x hv).1))

/-- Two elements change places. -/
theorem swap_at {xs ys : List UInt8} {n i j : Nat} {a b : UInt8} (hn : xs.length = n) (hy : ys.length = n) (hij : i + j + 1 = n) (hlt : i < j) (hinv : ∀ t, t < n → ys[t]? = if t < i ∨ j < t then xs[n - 1 - t]? else xs[t]?) (ha : ys[i]? = some a) (hb : ys[j]? = some b) :
    ∀ t, t < n → ((ys.set i b).set j a)[t]? = if t < i + 1 ∨ j - 1 < t then xs[n - 1 - t]? else xs[t]? := by
  intro t ht
  have hi := hinv i (by omega)
  have hj := hinv j (by omega)
  rw [if_neg (by omega)] at hi hj
  rw [List.getElem?_set, List.getElem?_set]
  by_cases h1 : j = t
  · subst h1
    rw [if_pos rfl, if_pos (by rw [List.length_set]; omega), if_pos (by omega), show n - 1 - j = i by omega, ← hi, ha]
  · rw [if_neg h1]
    by_cases h2 : i = t
    · subst h2
      rw [if_pos rfl, if_pos (by omega), if_pos (by omega), show n - 1 - i = j by omega, ← hj, hb]
    · rw [if_neg h2, hinv t ht]
      by_cases h3 : t < i ∨ j < t
      · rw [if_pos h3, if_pos (by omega)]
      · rw [if_neg h3, if_neg (by omega)]

theorem rev_of {xs ys : List UInt8} {n i : Nat} {j : Int} (hn : xs.length = n) (hy : ys.length = n) (hij : (i : Int) + j + 1 = n) (hle : j ≤ i) (hinv : ∀ t, t < n → ys[t]? = if t < i ∨ j < t then xs[n - 1 - t]? else xs[t]?) : ys = xs.reverse := by
  apply List.ext_getElem?
  intro t
  by_cases ht : t < n
  · rw [hinv t ht, List.getElem?_reverse (by omega), hn]
    by_cases h : (t : Int) < i ∨ j < t
    · rw [if_pos (by omega)]
    · rw [if_neg (by omega), show n - 1 - t = t by omega]
  · rw [List.getElem?_eq_none (by omega), List.getElem?_eq_none (by rw [List.length_reverse]; omega)]

theorem rev_is (g n c base : Nat) (xs : List UInt8) (w : World) (hl : xs.length = n) (hn : n ≤ 4611686018427387904) (ho : w.ownsRow base 5 1 (.slice (some ⟨g, 0, none⟩) n c) n (xs.map bv)) :
    Calls Tryz.prog 237 #[.slice (some ⟨g, 0, none⟩) n c] w fun e w' => e = .returned (.tuple #[]) ∧ w'.ownsRow base 5 1 (.slice (some ⟨g, 0, none⟩) n c) n (xs.reverse.map bv) ∧ Keeps [g] w w' := by
  have HO := Lib.hid ho
  have HL := Lib.hid hl
  clear ho hl
  go_enter Tryz.func237, Tryz.ntmps237
  go_wp2_with fail
  go_loopw [2, 3] (fun vi vj wr => ∃ (i : Nat) (j : Int) (ys : List UInt8), vi = .int .i64 (i : Int) ∧ vj = .int .i64 j ∧ (i : Int) + j + 1 = n ∧ -1 ≤ j ∧ (i : Int) ≤ j + 2 ∧ Hid (ys.length = n ∧ (∀ t, t < n → ys[t]? = if t < i ∨ j < t then xs[n - 1 - t]? else xs[t]?) ∧ wr.ownsRow base 5 1 (.slice (some ⟨g, 0, none⟩) n c) n (ys.map bv) ∧ Keeps [g] w wr)) (fun _ vj _ => (intOf vj + 1).toNat)
  case atStart =>
    refine ⟨0, (n : Int) - 1, xs, rfl, rfl, by omega, by omega, by omega, HL.out, fun t ht => ?_, HO.out, Keeps.refl _ _⟩
    rw [if_neg (by omega)]
  case round =>
    obtain ⟨i, j, ys, rfl, rfl, hij, hj1, hj2, HI⟩ := hrel
    by_cases hlt : (i : Int) < j
    · obtain ⟨m, rfl⟩ := Int.eq_ofNat_of_zero_le (show 0 ≤ j by omega)
      obtain ⟨hy, hinv, hown, hkeep⟩ := HI.out
      have him : i < m := by omega
      obtain ⟨a, ha⟩ : ∃ a, ys[i]? = some a := ⟨_, List.getElem?_eq_getElem (by omega)⟩
      obtain ⟨b, hb⟩ : ∃ b, ys[m]? = some b := ⟨_, List.getElem?_eq_getElem (by omega)⟩
      have ci := hown.cellAt i (by omega)
      have cm := hown.cellAt m (by omega)
      rw [List.getElem?_map, ha] at ci
      rw [List.getElem?_map, hb] at cm
      have fi := hown.frozenAt i
      have fm := hown.frozenAt m
      have hs := swap_at HL.out hy (by omega) him (fun t ht => by have h := hinv t ht; by_cases q : t < i ∨ m < t; (rw [if_pos q]; rw [if_pos (by omega)] at h; exact h); (rw [if_neg q]; rw [if_neg (by omega)] at h; exact h)) ha hb
      have ho1 := (hown.stored i (bv b)).1
      have ho2 := (ho1.stored m (bv a)).1
      rw [← List.map_set, ← List.map_set] at ho2
      have HN : Hid (((ys.set i b).set m a).length = n ∧ (∀ t, t < n → ((ys.set i b).set m a)[t]? = if t < i + 1 ∨ ((m : Int) - 1) < t then xs[n - 1 - t]? else xs[t]?) ∧ ((wr.setCell ⟨g, i, none⟩ (.int .u8 (b.toNat : Int))).setCell ⟨g, m, none⟩ (.int .u8 (a.toNat : Int))).ownsRow base 5 1 (.slice (some ⟨g, 0, none⟩) n c) n (((ys.set i b).set m a).map bv) ∧ Keeps [g] w ((wr.setCell ⟨g, i, none⟩ (.int .u8 (b.toNat : Int))).setCell ⟨g, m, none⟩ (.int .u8 (a.toNat : Int)))) := by
        refine ⟨by rw [List.length_set, List.length_set]; exact hy, fun t ht => ?_, ho2, (hkeep.setCell (.inl (by simp)) _).setCell (.inl (by simp)) _⟩
        rw [hs t ht]
        by_cases q : t < i + 1 ∨ m - 1 < t
        · rw [if_pos q, if_pos (by omega)]
        · rw [if_neg q, if_neg (by omega)]
      have ci' : wr.cell? ⟨g, i, none⟩ = some (.int .u8 (a.toNat : Int)) := ci
      have cm' : wr.cell? ⟨g, m, none⟩ = some (.int .u8 (b.toNat : Int)) := cm
      clear hinv hown hkeep hs ho1 ho2 ci cm ha hb hy HI
      have mixed : Tryz.prog.follows .mixedOrders = true := by kernel_rfl
      have hin : i < n := by omega
      have hmn : m < n := by omega
      go_wp2_with fail
      go_region_o
      go_wp2_with fail
      go_roundw
      case rel => exact ⟨i + 1, (m : Int) - 1, (ys.set i b).set m a, by go_num, by go_num, by omega, by omega, by omega, HN.out.1, HN.out.2.1, own_keep HN.out.2.2.1 ((Keeps.refl [] _).drew) (by simp), HN.out.2.2.2.drew⟩
      case measure => first | omega | (simp [intOf]; omega) | simp [intOf]
    · obtain ⟨hy, hinv, hown, hkeep⟩ := HI.out
      have he := rev_of HL.out hy hij (by omega) hinv
      subst he
      go_wp2_with fail
      go_end0
      exact ⟨rfl, by rw [List.map_reverse] at hown; simpa using hown, hkeep⟩

theorem few_in {x : Int} {k : Nat} (hk : k ≤ 7) (h1 : -128 * 256 ^ k ≤ x) (h2 : x < 128 * 256 ^ k) : -9223372036854775808 ≤ x ∧ x ≤ 9223372036854775807 := by
  match k, hk with
  | 0, _ | 1, _ | 2, _ | 3, _ | 4, _ | 5, _ | 6, _ | 7, _ => simp at h1 h2; omega
theorem few_next {x : Int} {k : Nat} (hk : k ≤ 7) (h1 : -128 * 256 ^ k ≤ x) (h2 : x < 128 * 256 ^ k) (h3 : ¬ (-128 ≤ x ∧ x ≤ 127)) : ∃ j, k = j + 1 ∧ -128 * 256 ^ j ≤ x / 256 ∧ x / 256 < 128 * 256 ^ j := by
  match k, hk with
  | 0, _ => simp at h1 h2; omega
  | 1, _ => refine ⟨0, rfl, ?_, ?_⟩ <;> simp at h1 h2 ⊢ <;> omega
  | 2, _ => refine ⟨1, rfl, ?_, ?_⟩ <;> simp at h1 h2 ⊢ <;> omega
  | 3, _ => refine ⟨2, rfl, ?_, ?_⟩ <;> simp at h1 h2 ⊢ <;> omega
  | 4, _ => refine ⟨3, rfl, ?_, ?_⟩ <;> simp at h1 h2 ⊢ <;> omega
  | 5, _ => refine ⟨4, rfl, ?_, ?_⟩ <;> simp at h1 h2 ⊢ <;> omega
  | 6, _ => refine ⟨5, rfl, ?_, ?_⟩ <;> simp at h1 h2 ⊢ <;> omega
  | 7, _ => refine ⟨6, rfl, ?_, ?_⟩ <;> simp at h1 h2 ⊢ <;> omega
theorem fewL_in {x : Int} (k : Nat) (h : -128 ≤ x ∧ x ≤ 127) : fewL k x = [n8 x] := by
  cases k with
  | zero => rfl
  | succ j => unfold fewL; rw [if_pos h]
theorem fewL_out {x : Int} (j : Nat) (h : ¬ (-128 ≤ x ∧ x ≤ 127)) : fewL (j + 1) x = n8 x :: fewL j (x / 256) := by
  rw [fewL.eq_2, if_neg h]
theorem wrap8_in {x : Int} (h : -128 ≤ x ∧ x ≤ 127) : IntKind.i8.wrap x = x := by
  have e : IntKind.i8.wrap x = (x + 128) % 256 - 128 := by
    have e0 : IntKind.i8.wrap x = (if x % 256 ≥ 128 then x % 256 - 256 else x % 256) := by simp [IntKind.wrap, IntKind.bits, IntKind.signed]
    rw [e0]; split <;> omega
  rw [e]; omega
theorem wrap8_out {x : Int} (h : ¬ (-128 ≤ x ∧ x ≤ 127)) : wrap64 (IntKind.i8.wrap x) ≠ x := by
  have e : IntKind.i8.wrap x = (x + 128) % 256 - 128 := by
    have e0 : IntKind.i8.wrap x = (if x % 256 ≥ 128 then x % 256 - 256 else x % 256) := by simp [IntKind.wrap, IntKind.bits, IntKind.signed]
    rw [e0]; split <;> omega
  have e2 : -128 ≤ IntKind.i8.wrap x ∧ IntKind.i8.wrap x ≤ 127 := by rw [e]; omega
  rw [show wrap64 (IntKind.i8.wrap x) = IntKind.i8.wrap x by unfold wrap64; omega]
  omega
/-- What the loop of fewest has. -/
def FewI (w : World) (n x : Int) (k : Nat) (A : Option Addr) (c : Nat) (ys : List UInt8) (wr : World) : Prop :=
  ys.length = 7 - k ∧ -128 * 256 ^ k ≤ x ∧ x < 128 * 256 ^ k ∧ ys ++ fewL k x = fewL 7 n ∧ wr.ownsRow w.heap.size 5 1 (.slice A ys.length c) ys.length (ys.map bv) ∧ Keeps [] w wr

set_option maxHeartbeats 1000000 in
theorem few64_is (n : Int) (w : World) (hn : -9223372036854775808 ≤ n ∧ n ≤ 9223372036854775807) :
    Calls Tryz.prog 174 #[.int .i64 n] w fun e w' => ∃ A c, e = .returned (.slice A (fewB n).length c) ∧ w'.ownsRow w.heap.size 5 1 (.slice A (fewB n).length c) (fewB n).length ((fewB n).map bv) ∧ Keeps [] w w' := by
  obtain ⟨iu, hiu, hzu0, hzu1, hzu2⟩ := info_parts u8_info
  have HR := Lib.hid (fun X g n c xs (hl : xs.length = n) (hn : n ≤ 4611686018427387904) ho => rev_is g n c w.heap.size xs X hl hn ho)
  go_enter Tryz.func174, Tryz.ntmps174
  go_wp2_with fail
  go_loopw [0, 3] (fun v b wr => ∃ (x : Int) (k : Nat) (A : Option Addr) (c : Nat) (ys : List UInt8), v = .int .i64 x ∧ b = .slice A ys.length c ∧ k ≤ 7 ∧ Hid (FewI w n x k A c ys wr)) (fun _ b _ => 8 - (match b with | .slice _ m _ => m | _ => 0))
  case atStart => exact ⟨n, 7, none, 0, [], rfl, rfl, by omega, rfl, by simp; omega, by simp; omega, rfl, World.ownsRow_nil _ _ _ _, Keeps.refl _ _⟩
  case round =>
    obtain ⟨x, k, A, c, ys, rfl, rfl, hk, HI⟩ := hrel
    obtain ⟨hl, hx1, hx2, he, ho, hkw⟩ := HI.out
    have hb := few_in hk hx1 hx2
    have hyl : ys.length ≤ 7 := by omega
    have HO := Lib.hid ho
    have HE := Lib.hid he
    have HL := Lib.hid hl
    have HX := Lib.hid (show -128 * 256 ^ k ≤ x ∧ x < 128 * 256 ^ k from ⟨hx1, hx2⟩)
    have HKW := Lib.hid hkw
    have hsz := hkw.size
    generalize hyn : ys.length = yn at *
    by_cases hin : -128 ≤ x ∧ x ≤ 127
    · have hw8 := wrap8_in hin
      have HE2 : Hid (ys ++ [n8 x] = fewL 7 n) := by
        have h := HE.out
        rw [fewL_in k hin] at h
        exact h
      clear ho he hl hx1 hx2 hkw HI HE
      go_wp2_with (at_builtin; refine wpList_append_opt rfl (.tmp 16) (.tmp 19) 37 rfl w.heap.size 5 iu _ 1 1 Tryz.underlying37 hiu hzu0 hzu1 hzu2 rfl (by decide) (.slice A yn c) yn (ys.map bv) rfl (HO.out.alloc _) (some ⟨wr.heap.size, 0, none⟩) 1 1 [bv (n8 x)] rfl rfl (src_n8 wr x) (by simp [bv_one]) (by unfold maxLen; omega) (by omega) (by simp; omega) ?_; intro v1 w1 ho1 hg1 hs1; obtain ⟨A1, c1, hv1⟩ := own_slice ho1; subst hv1; have HG1 := Lib.hid (keeps_own8 (HO.out.alloc _) (HKW.out.alloc _) hg1); have HO1 : Hid (w1.ownsRow w.heap.size 5 1 (.slice A1 (yn + 1) c1) (yn + 1) ((fewL 7 n).map bv)) := (by rw [← HE2.out, List.map_append]; exact ho1); have HL1 : Hid ((fewL 7 n).length = yn + 1) := (by show _ = _; rw [← HE2.out, List.length_append, hyn]; rfl); clear ho1 hg1 hs1)
      obtain ⟨g1, cap1, hv1, hb1⟩ := HO1.out.form (by omega)
      injection hv1 with hv1 _ hv2
      subst hv1
      subst hv2
      have HR1 := Lib.hid (HR.out w1 g1 (yn + 1) c1 (fewL 7 n) HL1.out (by omega) HO1.out)
      clear HR
      go_wp2_with fail
      refine HR1.out.mono ?_
      rintro e w2 ⟨rfl, ho2, hk2⟩
      have HO2 := Lib.hid ho2
      have HK2 := Lib.hid (HG1.out.trans hk2 (fun y hy => .inr (by rw [List.mem_singleton.1 hy]; exact (HO1.out.lt g1 rfl).1)))
      clear ho2 hk2 HR1
      go_wp2_with fail
      go_ret
      have hlf : (fewB n).length = yn + 1 := by unfold fewB; rw [List.length_reverse]; exact HL1.out
      rw [hlf]
      exact ⟨_, _, rfl, HO2.out, HK2.out⟩
    · have hw8 := wrap8_out hin
      obtain ⟨j, rfl, hj1, hj2⟩ := few_next hk hx1 hx2 hin
      have HE2 : Hid (ys ++ [n8 x] ++ fewL j (x / 256) = fewL 7 n) := by
        have h := HE.out
        rw [fewL_out j hin] at h
        show _ = _
        rw [← h]
        simp
      clear ho he hl hx1 hx2 hkw HI HE
      go_wp2_with (at_builtin; refine wpList_append_opt rfl (.tmp 11) (.tmp 14) 37 rfl w.heap.size 5 iu _ 1 1 Tryz.underlying37 hiu hzu0 hzu1 hzu2 rfl (by decide) (.slice A yn c) yn (ys.map bv) rfl (HO.out.alloc _) (some ⟨wr.heap.size, 0, none⟩) 1 1 [bv (n8 x)] rfl rfl (src_n8 wr x) (by simp [bv_one]) (by unfold maxLen; omega) (by omega) (by simp; omega) ?_; intro v1 w1 ho1 hg1 hs1; obtain ⟨A1, c1, hv1⟩ := own_slice ho1; subst hv1; have HG1 := Lib.hid (keeps_own8 (HO.out.alloc _) (HKW.out.alloc _) hg1); have HO1 : Hid (w1.ownsRow w.heap.size 5 1 (.slice A1 (yn + 1) c1) (yn + 1) ((ys ++ [n8 x]).map bv)) := (by rw [List.map_append]; exact ho1); clear ho1 hg1 hs1)
      go_roundw
      case rel => exact ⟨x / 256, j, A1, c1, ys ++ [n8 x], rfl, by rw [List.length_append, hyn]; rfl, by omega, by have h9 := HL.out; rw [List.length_append, hyn]; show yn + 1 = 7 - j; omega, hj1, hj2, HE2.out, by rw [List.length_append, hyn]; exact HO1.out, HG1.out⟩
      case measure => simp; omega

set_option maxHeartbeats 1000000 in
theorem fewI_is (n : Int) (w : World) (hn : -9223372036854775808 ≤ n ∧ n ≤ 9223372036854775807) :
    Calls Tryz.prog 219 #[.int .i64 n] w fun e w' => ∃ A c, e = .returned (.slice A (fewB n).length c) ∧ w'.ownsRow w.heap.size 5 1 (.slice A (fewB n).length c) (fewB n).length ((fewB n).map bv) ∧ Keeps [] w w' := by
  obtain ⟨iu, hiu, hzu0, hzu1, hzu2⟩ := info_parts u8_info
  have HR := Lib.hid (fun X g n c xs (hl : xs.length = n) (hn : n ≤ 4611686018427387904) ho => rev_is g n c w.heap.size xs X hl hn ho)
  go_enter Tryz.func219, Tryz.ntmps219
  go_wp2_with fail
  go_loopw [0, 3] (fun v b wr => ∃ (x : Int) (k : Nat) (A : Option Addr) (c : Nat) (ys : List UInt8), v = .int .i64 x ∧ b = .slice A ys.length c ∧ k ≤ 7 ∧ Hid (FewI w n x k A c ys wr)) (fun _ b _ => 8 - (match b with | .slice _ m _ => m | _ => 0))
  case atStart => exact ⟨n, 7, none, 0, [], rfl, rfl, by omega, rfl, by simp; omega, by simp; omega, rfl, World.ownsRow_nil _ _ _ _, Keeps.refl _ _⟩
  case round =>
    obtain ⟨x, k, A, c, ys, rfl, rfl, hk, HI⟩ := hrel
    obtain ⟨hl, hx1, hx2, he, ho, hkw⟩ := HI.out
    have hb := few_in hk hx1 hx2
    have hyl : ys.length ≤ 7 := by omega
    have HO := Lib.hid ho
    have HE := Lib.hid he
    have HL := Lib.hid hl
    have HX := Lib.hid (show -128 * 256 ^ k ≤ x ∧ x < 128 * 256 ^ k from ⟨hx1, hx2⟩)
    have HKW := Lib.hid hkw
    have hsz := hkw.size
    generalize hyn : ys.length = yn at *
    by_cases hin : -128 ≤ x ∧ x ≤ 127
    · have hw8 := wrap8_in hin
      have HE2 : Hid (ys ++ [n8 x] = fewL 7 n) := by
        have h := HE.out
        rw [fewL_in k hin] at h
        exact h
      clear ho he hl hx1 hx2 hkw HI HE
      go_wp2_with (at_builtin; refine wpList_append_opt rfl (.tmp 16) (.tmp 19) 37 rfl w.heap.size 5 iu _ 1 1 Tryz.underlying37 hiu hzu0 hzu1 hzu2 rfl (by decide) (.slice A yn c) yn (ys.map bv) rfl (HO.out.alloc _) (some ⟨wr.heap.size, 0, none⟩) 1 1 [bv (n8 x)] rfl rfl (src_n8 wr x) (by simp [bv_one]) (by unfold maxLen; omega) (by omega) (by simp; omega) ?_; intro v1 w1 ho1 hg1 hs1; obtain ⟨A1, c1, hv1⟩ := own_slice ho1; subst hv1; have HG1 := Lib.hid (keeps_own8 (HO.out.alloc _) (HKW.out.alloc _) hg1); have HO1 : Hid (w1.ownsRow w.heap.size 5 1 (.slice A1 (yn + 1) c1) (yn + 1) ((fewL 7 n).map bv)) := (by rw [← HE2.out, List.map_append]; exact ho1); have HL1 : Hid ((fewL 7 n).length = yn + 1) := (by show _ = _; rw [← HE2.out, List.length_append, hyn]; rfl); clear ho1 hg1 hs1)
      obtain ⟨g1, cap1, hv1, hb1⟩ := HO1.out.form (by omega)
      injection hv1 with hv1 _ hv2
      subst hv1
      subst hv2
      have HR1 := Lib.hid (HR.out w1 g1 (yn + 1) c1 (fewL 7 n) HL1.out (by omega) HO1.out)
      clear HR
      go_wp2_with fail
      refine HR1.out.mono ?_
      rintro e w2 ⟨rfl, ho2, hk2⟩
      have HO2 := Lib.hid ho2
      have HK2 := Lib.hid (HG1.out.trans hk2 (fun y hy => .inr (by rw [List.mem_singleton.1 hy]; exact (HO1.out.lt g1 rfl).1)))
      clear ho2 hk2 HR1
      go_wp2_with fail
      go_ret
      have hlf : (fewB n).length = yn + 1 := by unfold fewB; rw [List.length_reverse]; exact HL1.out
      rw [hlf]
      exact ⟨_, _, rfl, HO2.out, HK2.out⟩
    · have hw8 := wrap8_out hin
      obtain ⟨j, rfl, hj1, hj2⟩ := few_next hk hx1 hx2 hin
      have HE2 : Hid (ys ++ [n8 x] ++ fewL j (x / 256) = fewL 7 n) := by
        have h := HE.out
        rw [fewL_out j hin] at h
        show _ = _
        rw [← h]
        simp
      clear ho he hl hx1 hx2 hkw HI HE
      go_wp2_with (at_builtin; refine wpList_append_opt rfl (.tmp 11) (.tmp 14) 37 rfl w.heap.size 5 iu _ 1 1 Tryz.underlying37 hiu hzu0 hzu1 hzu2 rfl (by decide) (.slice A yn c) yn (ys.map bv) rfl (HO.out.alloc _) (some ⟨wr.heap.size, 0, none⟩) 1 1 [bv (n8 x)] rfl rfl (src_n8 wr x) (by simp [bv_one]) (by unfold maxLen; omega) (by omega) (by simp; omega) ?_; intro v1 w1 ho1 hg1 hs1; obtain ⟨A1, c1, hv1⟩ := own_slice ho1; subst hv1; have HG1 := Lib.hid (keeps_own8 (HO.out.alloc _) (HKW.out.alloc _) hg1); have HO1 : Hid (w1.ownsRow w.heap.size 5 1 (.slice A1 (yn + 1) c1) (yn + 1) ((ys ++ [n8 x]).map bv)) := (by rw [List.map_append]; exact ho1); clear ho1 hg1 hs1)
      go_roundw
      case rel => exact ⟨x / 256, j, A1, c1, ys ++ [n8 x], rfl, by rw [List.length_append, hyn]; rfl, by omega, by have h9 := HL.out; rw [List.length_append, hyn]; show yn + 1 = 7 - j; omega, hj1, hj2, HE2.out, by rw [List.length_append, hyn]; exact HO1.out, HG1.out⟩
      case measure => simp; omega


end Go.Proofs.YtbfebljahjmjfaaGreatDoor
