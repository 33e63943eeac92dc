import Derived.Test.YtbfebljahjmjfaaGreatDoorQ20
/- ber: the reference's own number in bytes (ref.Whole): the same bytes as fewB. -/
namespace Go.Proofs.YtbfebljahjmjfaaGreatDoor
open Go.RowKit Go.Shelf
set_option linter.unusedVariables false
set_option linter.unusedSimpArgs false
set_option maxRecDepth 100000

/-- A number's k lowest bytes, the lowest ahead. -/
def wholeK : Nat → Int → List UInt8
 | 0, _ => []
 | k + 1, n => n8 n :: wholeK k (n / 256)
theorem few_back {x : Int} {k : Nat} (hk : k ≤ 7) (h : -128 * 256 ^ k ≤ x / 256 ∧ x / 256 < 128 * 256 ^ k) : -128 * 256 ^ (k + 1) ≤ x ∧ x < 128 * 256 ^ (k + 1) := by
 match k, hk with
 | 0, _ | 1, _ | 2, _ | 3, _ | 4, _ | 5, _ | 6, _ | 7, _ => simp at h ⊢; omega
theorem few_one {x : Int} {k : Nat} (hk : k ≤ 7) (h : -128 ≤ x ∧ x ≤ 127) : -128 * 256 ^ k ≤ x ∧ x < 128 * 256 ^ k := by
 match k, hk with
 | 0, _ | 1, _ | 2, _ | 3, _ | 4, _ | 5, _ | 6, _ | 7, _ => simp; omega
theorem fewL_whole : ∀ (k d : Nat) (n : Int), k ≤ d → k ≤ 7 → -128 * 256 ^ k ≤ n ∧ n < 128 * 256 ^ k → (∀ j, k = j + 1 → ¬ (-128 * 256 ^ j ≤ n ∧ n < 128 * 256 ^ j)) → fewL d n = wholeK (k + 1) n
 | 0, d, n, _, _, h, _ => by
  rw [fewL_in d (by simp at h; omega)]
  rfl
 | k + 1, d, n, hd, hk, h, hn => by
  have hj := hn k rfl
  have ho : ¬ (-128 ≤ n ∧ n ≤ 127) := fun q => hj (few_one (by omega) q)
  obtain ⟨e, rfl⟩ : ∃ e, d = e + 1 := ⟨d - 1, by omega⟩
  rw [fewL_out e ho]
  obtain ⟨j, hjk, h1, h2⟩ := few_next hk h.1 h.2 ho
  obtain rfl : j = k := by omega
  rw [fewL_whole j e (n / 256) (by omega) (by omega) ⟨h1, h2⟩ (fun i hi q => by subst hi; exact hj (few_back (by omega) q))]
  rfl

/-- What the first loop of Whole has: the bytes found too few so far. -/
def WholeI (n lo mo : Int) (k : Nat) : Prop :=
 lo = -128 * 256 ^ k ∧ mo = 128 * 256 ^ k - 1 ∧ ∀ j, k = j + 1 → ¬ (-128 * 256 ^ j ≤ n ∧ n < 128 * 256 ^ j)
theorem WholeI.low {n lo mo : Int} {k : Nat} (h : WholeI n lo mo k) (hk : k ≤ 6) : -36028797018963968 ≤ lo ∧ mo ≤ 36028797018963967 := by
 obtain ⟨h1, h2, _⟩ := h
 match k, hk with
 | 0, _ | 1, _ | 2, _ | 3, _ | 4, _ | 5, _ | 6, _ => simp at h1 h2; omega
theorem WholeI.next {n lo mo : Int} {k : Nat} (h : WholeI n lo mo k) (hx : ¬ (lo ≤ n ∧ n ≤ mo)) : WholeI n (256 * lo) (256 * mo + 255) (k + 1) := by
 obtain ⟨h1, h2, h3⟩ := h
 refine ⟨by rw [h1, Int.pow_succ]; omega, by rw [h2, Int.pow_succ]; omega, fun j hj q => ?_⟩
 obtain rfl : j = k := by omega
 exact hx (by omega)
theorem WholeI.done {n lo mo : Int} {k : Nat} (h : WholeI n lo mo k) (hk : k ≤ 7) (hx : lo ≤ n ∧ n ≤ mo) : fewL 7 n = wholeK (k + 1) n := by
 obtain ⟨h1, h2, h3⟩ := h
 exact fewL_whole k 7 n hk hk (by omega) h3
end Go.Proofs.YtbfebljahjmjfaaGreatDoor
/- ber: a length's bytes by the reference's count; ref.many. -/
namespace Go.Proofs.YtbfebljahjmjfaaGreatDoor
open Go.RowKit Go.Shelf
set_option linter.unusedVariables false
set_option linter.unusedSimpArgs false
set_option maxRecDepth 100000

/-- A count's bytes, the lowest ahead, none for nothing. -/
def natL (n : Nat) : List UInt8 := if n = 0 then [] else n8 (n : Int) :: natL (n / 256)
termination_by n
decreasing_by omega
theorem natL_zero : natL 0 = [] := by rw [natL]; rfl
theorem natL_pos {n : Nat} (h : 0 < n) : natL n = n8 (n : Int) :: natL (n / 256) := by
 rw [natL, if_neg (by omega)]
theorem natL_len : ∀ (k n : Nat), n < 256 ^ k → (natL n).length ≤ k
 | 0, n, h => by
  obtain rfl : n = 0 := by simpa using h
  rw [natL_zero]; simp
 | k + 1, n, h => by
  rcases Nat.eq_zero_or_pos n with rfl | hp
  ·rw [natL_zero]; simp
  ·rw [natL_pos hp, List.length_cons]
   have := natL_len k (n / 256) (Nat.div_lt_of_lt_mul (by rw [Nat.pow_succ] at h; omega))
   omega
theorem natL_len8 {n : Nat} (h : n ≤ 9223372036854775807) : (natL n).length ≤ 8 := natL_len 8 n (by simp; omega)
theorem n8_nz {n : Nat} (h : 0 < n) (h2 : n < 256) : n8 (n : Int) ≠ 0 := by
 intro e
 have h3 := n8_val (n : Int)
 rw [e] at h3
 simp at h3
 omega
theorem natL_last : ∀ (k n : Nat), 0 < n → n < 256 ^ k → ∃ l x, natL n = l ++ [x] ∧ x ≠ 0
 | 0, n, h, h2 => by simp at h2; omega
 | k + 1, n, h, h2 => by
  rw [natL_pos h]
  by_cases hs : n < 256
  ·rw [show n / 256 = 0 by omega, natL_zero]
   exact ⟨[], _, rfl, n8_nz h hs⟩
  ·obtain ⟨l, x, he, hx⟩ := natL_last k (n / 256) (by omega) (Nat.div_lt_of_lt_mul (by rw [Nat.pow_succ] at h2; omega))
   rw [he]
   exact ⟨n8 (n : Int) :: l, x, rfl, hx⟩
theorem fewL_nat : ∀ (d n : Nat), 0 < n → n < 128 * 256 ^ d → fewL d (n : Int) = natL n ∨ fewL d (n : Int) = natL n ++ [0]
 | 0, n, h, h2 => by
  left
  simp at h2
  rw [fewL_in 0 (by omega), natL_pos h, show n / 256 = 0 by omega, natL_zero]
 | d + 1, n, h, h2 => by
  by_cases hs : n < 128
  ·left
   rw [fewL_in _ (by omega), natL_pos h, show n / 256 = 0 by omega, natL_zero]
  ·rw [fewL_out d (by omega), natL_pos h, show (n : Int) / 256 = ((n / 256 : Nat) : Int) by omega]
   rcases Nat.eq_zero_or_pos (n / 256) with hz | hp
   ·right
    rw [hz, natL_zero, fewL_in d (by decide)]
    rfl
   ·rcases fewL_nat d (n / 256) hp (Nat.div_lt_of_lt_mul (by rw [Nat.pow_succ] at h2; omega)) with he | he
    ·left; rw [he]
    ·right; rw [he]; rfl
/-- A length of 128 and more: how many bytes its count has, and these. -/
theorem lenB_big {n : Nat} (h : 128 ≤ n) (h2 : n ≤ 9223372036854775807) : lenB n = n8 ((128 + (natL n).length : Nat) : Int) :: (natL n).reverse := by
 obtain ⟨l, x, hl, hx⟩ := natL_last 8 n (by omega) (by simp; omega)
 have hs : (if (fewB (n : Int)).take 1 == [0] then (fewB (n : Int)).drop 1 else fewB (n : Int)) = (natL n).reverse := by
  unfold fewB
  rcases fewL_nat 7 n (by omega) (by simp; omega) with he | he
  ·rw [he, hl, List.reverse_append]
   simp [hx]
  ·rw [he, List.reverse_append]
   simp
 unfold lenB
 rw [if_neg (by omega), hs, List.length_reverse]
theorem lenB_small {n : Nat} (h : n < 128) : lenB n = [n8 (n : Int)] := by
 unfold lenB
 rw [if_pos h]
theorem lenB_many {n : Nat} (h2 : n ≤ 9223372036854775807) : (lenB n).length = if n < 128 then 1 else 1 + (natL n).length := by
 by_cases h : n < 128
 ·rw [lenB_small h, if_pos h]; rfl
 ·rw [lenB_big (by omega) h2, if_neg h, List.length_cons, List.length_reverse]; omega

theorem many_is (n : Nat) (w : World) (hn : n ≤ 9223372036854775807) : Calls Tryz.prog 55 #[.int .i64 (n : Int)] w fun e w' => e = .returned (.int .i64 ((lenB n).length : Int)) ∧ w = w' := by
 have HL := Lib.hid (lenB_many hn)
 by_cases h : n < 128
 ·rw [if_pos h] at HL
  rw [HL.out]
  go_enter Tryz.func55, Tryz.ntmps55
  go_wp2_with fail
  go_ret
  exact ⟨rfl, rfl⟩
 ·rw [if_neg h] at HL
  rw [HL.out]
  have h8 := natL_len8 hn
  generalize htot : (natL n).length = tot at *
  go_enter Tryz.func55, Tryz.ntmps55
  go_wp2_with fail
  go_loopw [0, 3] (fun a b wr => ∃ m j : Nat, a = .int .i64 (m : Int) ∧ b = .int .i64 (j : Int) ∧ m ≤ n ∧ j ≤ 9 ∧ Hid (j + (natL m).length = 1 + tot) ∧ wr = w) (fun a _ _ => (intOf a).toNat)
  case atStart => exact ⟨n, 1, rfl, rfl, Nat.le_refl _, by omega, by show 1 + _ = _; rw [htot], rfl⟩
  case round =>
   obtain ⟨m, j, rfl, rfl, hm, hj, HJ, rfl⟩ := hrel
   by_cases hp : 0 < m
   ·have hj2 : j + 1 + (natL (m / 256)).length = 1 + tot := by
     have h9 := HJ.out
     rw [natL_pos hp, List.length_cons] at h9
     omega
    have HJ2 := Lib.hid hj2
    have hj3 : j + 1 ≤ 9 := by omega
    clear hj2 HJ
    go_wp2_with fail
    go_roundw
    case rel => exact ⟨m / 256, j + 1, by go_num, by go_num, by omega, hj3, HJ2, trivial⟩
    case measure => simp [intOf]; omega
   ·obtain rfl : m = 0 := by omega
    have hjt : j = 1 + tot := by
     have h9 := HJ.out
     rw [natL_zero] at h9
     simpa using h9
    subst hjt
    go_wp2_with fail
    go_ret
    exact ⟨rfl, rfl⟩

end Go.Proofs.YtbfebljahjmjfaaGreatDoor
/- ber: a row of values, cloned. -/
namespace Go.Proofs.YtbfebljahjmjfaaGreatDoor
open Go.RowKit Go.Shelf
set_option linter.unusedVariables false
set_option linter.unusedSimpArgs false
set_option maxRecDepth 100000

theorem ber_info : (Tryz.prog.info? 40).map (fun i => (i.zero, i.size, i.bytes)) = some (some (.agg #[.int .u8 0, .int .u8 0, .bool false, .slice none 0 0, .slice none 0 0]), 5, 56) := by kernel_rfl

/-- The cells of a row of values. -/
def headsL (hs : List BH) : List Value := hs.flatMap BH.list
theorem headsL_len : ∀ (hs : List BH), (headsL hs).length = hs.length * 5
 | [] => rfl
 | h :: r => by
  have := headsL_len r
  unfold headsL at *
  rw [List.flatMap_cons, List.length_append, this, List.length_cons]
  show 5 + _ = _
  omega
theorem headsL_get : ∀ (hs : List BH) (i q : Nat) (h : BH) (u : Value), hs[i]? = some h → h.list[q]? = some u → (headsL hs)[i * 5 + q]? = some u
 | x :: r, 0, q, h, u, hh, hu => by
  simp at hh
  subst hh
  have hq : q < x.list.length := (List.getElem?_eq_some_iff.1 hu).1
  unfold headsL
  rw [List.flatMap_cons, Nat.zero_mul, Nat.zero_add, List.getElem?_append_left hq]
  exact hu
 | x :: r, i + 1, q, h, u, hh, hu => by
  have h9 := headsL_get r i q h u (by simpa using hh) hu
  unfold headsL at *
  have h5 : x.list.length = 5 := rfl
  rw [List.flatMap_cons, List.getElem?_append_right (by rw [h5]; omega), h5, show (i + 1) * 5 + q - 5 = i * 5 + q by omega]
  exact h9
theorem headsL_inv : ∀ (hs : List BH) (j : Nat) (u : Value), (headsL hs)[j]? = some u → ∃ i q h, j = i * 5 + q ∧ q < 5 ∧ hs[i]? = some h ∧ h.list[q]? = some u
 | [], j, u, h => by simp [headsL] at h
 | x :: r, j, u, h => by
  unfold headsL at h
  rw [List.flatMap_cons] at h
  have h5 : x.list.length = 5 := rfl
  by_cases hj : j < 5
  ·rw [List.getElem?_append_left (by rw [h5]; exact hj)] at h
   exact ⟨0, j, x, by omega, hj, rfl, h⟩
  ·rw [List.getElem?_append_right (by rw [h5]; omega), h5] at h
   obtain ⟨i, q, y, h1, h2, h3, h4⟩ := headsL_inv r (j - 5) u h
   exact ⟨i + 1, q, y, by omega, h2, by simpa using h3, h4⟩
theorem headsL_one (hs : List BH) : ∀ u ∈ headsL hs, u.oneCell' = true := by
 intro u hu
 obtain ⟨h, _, hm⟩ := List.mem_flatMap.1 hu
 simp [BH.list] at hm
 rcases hm with rfl | rfl | rfl | rfl | rfl <;> rfl

/-- The heads of a row of values. -/
theorem ItemsAt.heads {w : World} {B : Option Addr} : ∀ {i : Nat} {l : List BV}, ItemsAt w B i l → ∃ hs : List BH, hs.length = l.length ∧ (∀ (j : Nat) (t : BV) (h : BH), l[j]? = some t → hs[j]? = some h → BerAt w t h) ∧ (l ≠ [] → ∃ b o, B = some ⟨b, o, none⟩ ∧ ∀ (j : Nat) (h : BH), hs[j]? = some h → ∀ (q : Nat) (u : Value), h.list[q]? = some u → w.cell? ⟨b, o + (i + j) * 5 + q, none⟩ = some u)
 | _, [], _ => ⟨[], rfl, fun j t h hj => by simp at hj, fun h => absurd rfl h⟩
 | i, x :: r, ⟨⟨b, o, h, hB, h2, h3⟩, h4⟩ => by
  obtain ⟨hs, k1, k2, k3⟩ := ItemsAt.heads h4
  refine ⟨h :: hs, by simp [k1], fun j t hh hj hk => ?_, fun _ => ⟨b, o, hB, fun j hh hk q u hu => ?_⟩⟩
  ·match j, hj, hk with
   | 0, hj, hk => simp at hj hk; subst hj hk; exact h3
   | j + 1, hj, hk => exact k2 j t hh (by simpa using hj) (by simpa using hk)
  ·match j, hk with
   | 0, hk => simp at hk; subst hk; exact h2 q u hu
   | j + 1, hk =>
    have hk' : hs[j]? = some hh := by simpa using hk
    have hlt : j < hs.length := (List.getElem?_eq_some_iff.1 hk').1
    obtain ⟨b', o', hB', h5⟩ := k3 (fun hr => by rw [hr] at k1; simp at k1; rw [k1] at hlt; simp at hlt)
    rw [hB] at hB'
    injection hB' with hB'
    injection hB' with e1 e2 _
    subst e1 e2
    have := h5 j hh hk' q u hu
    rwa [show i + 1 + j = i + (j + 1) by omega] at this
theorem heads_src {w : World} {B : Option Addr} {l : List BV} {hs : List BH} (h1 : hs.length = l.length) (h2 : l ≠ [] → ∃ b o, B = some ⟨b, o, none⟩ ∧ ∀ (j : Nat) (h : BH), hs[j]? = some h → ∀ (q : Nat) (u : Value), h.list[q]? = some u → w.cell? ⟨b, o + (0 + j) * 5 + q, none⟩ = some u) : Src w B l.length (headsL hs) := by
 rcases l with _ | ⟨x, l'⟩
 ·refine ⟨fun _ => rfl, fun ad _ j u hu => ?_⟩
  obtain rfl : hs = [] := List.length_eq_zero_iff.1 h1
  simp [headsL] at hu
 ·obtain ⟨b, o, hB, hc⟩ := h2 (List.cons_ne_nil _ _)
  subst hB
  refine ⟨fun h => by simp at h, fun ad hA j u hu => ?_⟩
  injection hA with hA
  subst hA
  obtain ⟨i, q, h, rfl, _, hi, hq⟩ := headsL_inv hs j u hu
  have := hc i h hi q u hq
  rw [Nat.zero_add, Nat.add_assoc] at this
  rw [add_at]
  exact this

set_option maxHeartbeats 1000000 in
theorem clonei_is (B : Option Addr) (lb cb : Nat) (l : List BV) (hs : List BH) (w : World) (hl : l.length = lb) (hlb : lb ≤ 1000000000) (h1 : hs.length = l.length) (hsrc : Src w B l.length (headsL hs)) :
  Calls Tryz.prog 238 #[.slice B lb cb] w fun e w' => ∃ C d, e = .returned (.slice C lb d) ∧ w'.ownsRow w.heap.size 40 5 (.slice C lb d) lb (headsL hs) ∧ Keeps [] w w' := by
 obtain ⟨iu, hiu, hzu0, hzu1, hzu2⟩ := info_parts ber_info
 have HS := Lib.hid hsrc
 have HL := Lib.hid hl
 have HHL := Lib.hid (headsL_len hs)
 have HH1 := Lib.hid h1
 clear hsrc hl h1
 have hq := fun (W : World) (a : Option Addr) (n c : Nat) => Lib.run_eql_slice_nil (P := Tryz.prog) W 38 40 a n c 0 0 Tryz.underlying38
 rcases B with _ | ad
 ·have hz : lb = 0 := by have := HS.out.1 rfl; have := HL.out; omega
  subst hz
  have hh : hs = [] := List.length_eq_zero_iff.1 (by have := HH1.out; have := HL.out; omega)
  subst hh
  go_enter Tryz.func238, Tryz.ntmps238
  go_wp2_with fail
  go_ret
  exact ⟨_, _, rfl, World.ownsRow_nil _ _ _ _, Keeps.refl _ _⟩
 ·have HSR : Hid (∀ o, Src (w.alloc o) (some ad) lb (headsL hs)) := fun o => by
   refine ⟨fun h => by simp at h, fun a' ha j u hu => ?_⟩
   have h9 := HS.out.2 a' ha j u hu
   exact (((Keeps.refl [] w).alloc o).cell (lt_of_cell h9) (by simp)).trans h9
  have HHN : Hid ((headsL hs).length = lb * 5) := by show _ = _; rw [HHL.out, HH1.out, HL.out]
  go_enter Tryz.func238, Tryz.ntmps238
  go_wp2_with (at_builtin; refine wpList_append_opt rfl (.tmp 5) (.tmp 6) 38 rfl w.heap.size 40 iu _ 5 56 Tryz.underlying38 hiu hzu0 hzu1 hzu2 rfl (by decide) (.slice (some ⟨w.heap.size, 0, none⟩) 0 0) 0 [] rfl (World.ownsRow_made w #[] 0 (Nat.le_refl _) (by unfold maxLen; omega) rfl) (some ad) lb cb (headsL hs) rfl HHN.out (HSR.out _) (headsL_one hs) (by unfold maxLen; omega) (by omega) (by simp) ?_; intro v1 w1 ho1 hg1 hs1; obtain ⟨A1, c1, hv1⟩ := own_slice ho1; subst hv1; have HG1 := Lib.hid (Keeps.trans ((Keeps.refl [] w).alloc (.cells #[] 40)) (Keeps.of_grown (bs := [w.heap.size]) hg1 (fun x hx => .inl (by simp [Value.ownBlock] at hx; simp [hx]))) (fun y hy => .inr (by rw [List.mem_singleton.1 hy]; exact Nat.le_refl _))); have HO1 : Hid (w1.ownsRow w.heap.size 40 5 (.slice A1 lb c1) lb (headsL hs)) := (by have h9 := ho1; rw [Nat.zero_add, List.nil_append] at h9; exact h9); clear ho1 hg1 hs1)
  go_ret
  exact ⟨_, _, rfl, HO1.out, HG1.out⟩

end Go.Proofs.YtbfebljahjmjfaaGreatDoor
/- ber: the last of a row of rows, and the row before it. -/
namespace Go.Proofs.YtbfebljahjmjfaaGreatDoor
open Go.RowKit Go.Shelf
set_option linter.unusedVariables false
set_option linter.unusedSimpArgs false
set_option maxRecDepth 100000

theorem slice_toB (b o n c k : Nat) (hk : k ≤ c) (hnc : n ≤ c) : ∀ W, (Instr.slice 257 (.slice (some ⟨b, o, none⟩) n c) none (some (.int .i64 (k : Int))) none).run Tryz.prog W = .ok (.slice (some ⟨b, o, none⟩) k c) W := by
 intro W
 rw [run_slice_h W 257 (some ⟨b, o, none⟩) n c (by simp [Program.elem, Tryz.underlying257]) .i64 _ (by omega) (by omega)]
 rw [show Tryz.prog.elem 257 = 38 by simp [Program.elem, Tryz.underlying257], Tryz.sizeOf38]
 simp [Result.andThen, sliced, add_at]

theorem lasti_is (b o n c : Nat) (v : Value) (w : World) (hn : n + 1 ≤ c) (hc : n ≤ 4611686018427387904) (hv : w.cell? ⟨b, o + n, none⟩ = some v) (A : Option Addr) (la ca : Nat) (hvv : v = .slice A la ca) :
  Calls Tryz.prog 239 #[.slice (some ⟨b, o, none⟩) (n + 1) c] w fun e w' => e = .returned (.tuple #[v, .slice (some ⟨b, o, none⟩) n c]) ∧ Keeps [] w w' := by
 subst hvv
 have hsl := slice_toB b o (n + 1) c n (by omega) hn
 have hq : wrap64 (((n + 1 : Nat) : Int) - 1) = (n : Int) := by unfold wrap64; omega
 have hlt : (n : Int) < (n : Int) + 1 := by omega
 have mixed : Tryz.prog.follows .mixedOrders = true := by kernel_rfl
 have hv1 : w.drew.cell? ⟨b, o + n, none⟩ = some (.slice A la ca) := hv
 go_enter Tryz.func239, Tryz.ntmps239
 go_wp2_with fail
 go_region_o
 go_wp2_with fail
 go_ret2
 exact ⟨rfl, by first | exact Keeps.refl _ _ | exact (Keeps.refl [] w).drew⟩

end Go.Proofs.YtbfebljahjmjfaaGreatDoor
/- ber: the last of a row of pairs, and the row before it. -/
namespace Go.Proofs.YtbfebljahjmjfaaGreatDoor
open Go.RowKit Go.Shelf
set_option linter.unusedVariables false
set_option linter.unusedSimpArgs false
set_option maxRecDepth 100000

theorem slice_toP (b o n c k : Nat) (hk : k ≤ c) (hnc : n ≤ c) : ∀ W, (Instr.slice 205 (.slice (some ⟨b, o, none⟩) n c) none (some (.int .i64 (k : Int))) none).run Tryz.prog W = .ok (.slice (some ⟨b, o, none⟩) k c) W := by
 intro W
 rw [run_slice_h W 205 (some ⟨b, o, none⟩) n c (by simp [Program.elem, Tryz.underlying205]) .i64 _ (by omega) (by omega)]
 rw [show Tryz.prog.elem 205 = 204 by simp [Program.elem, Tryz.underlying205], Tryz.sizeOf204]
 simp [Result.andThen, sliced, add_at]

theorem results_row_tmp {fn : Func} {p q : Tmp} {ty : TypeId} (h : fn.results = #[.cell p ty, .tmp q]) (tmps : Array Value) (w : World) (g : Nat) (cs : Array Value)
  (hp : tmps.getD p undef = .pointer (some ⟨g, 0, none⟩)) (hl : (loadVar ty ⟨g, 0, none⟩).run Tryz.prog w = .ok (.agg cs) w) :
  (results fn tmps).run Tryz.prog w = .ok (.tuple #[.agg cs, tmps.getD q undef]) w := by
 have hp' : tmps[p]?.getD undef = .pointer (some ⟨g, 0, none⟩) := by simpa using hp
 simp [results, h, hp', asAddr, hl, Sem.run_bind, Result.andThen]

theorem lastp_is (b o n c : Nat) (A B : Option Addr) (la ca lb cb : Nat) (w : World) (hn : n + 1 ≤ c) (hc : n ≤ 4611686018427387904) (hb : b < w.heap.size) (h0 : w.cell? ⟨b, o + n * 2, none⟩ = some (.slice A la ca)) (h1 : w.cell? ⟨b, o + n * 2 + 1, none⟩ = some (.slice B lb cb)) :
  Calls Tryz.prog 184 #[.slice (some ⟨b, o, none⟩) (n + 1) c] w fun e w' => e = .returned (.tuple #[.agg #[.slice A la ca, .slice B lb cb], .slice (some ⟨b, o, none⟩) n c]) ∧ Keeps [] w w' := by
 have hsl := slice_toP b o (n + 1) c n (by omega) hn
 have hq : wrap64 (((n + 1 : Nat) : Int) - 1) = (n : Int) := by unfold wrap64; omega
 have hlt : (n : Int) < (n : Int) + 1 := by omega
 have mixed : Tryz.prog.follows .mixedOrders = true := by kernel_rfl
 have late : Tryz.prog.follows .lateStores = true := by kernel_rfl
 go_enter Tryz.func184, Tryz.ntmps184
 go_wp2_with fail
 have hne : b ≠ w.heap.size := by omega
 have g0 := (((Keeps.refl [] w).alloc (.cells #[.slice none 0 0, .slice none 0 0] 204)).cell (lt_of_cell h0) (by simp)).trans h0
 have g1 := (((Keeps.refl [] w).alloc (.cells #[.slice none 0 0, .slice none 0 0] 204)).cell (lt_of_cell h1) (by simp)).trans h1
 have gb : (w.alloc (.cells #[.slice none 0 0, .slice none 0 0] 204)).heap[w.heap.size]? = some (.cells #[.slice none 0 0, .slice none 0 0] 204 (0, 0)) := heap_new8 w _
 have c0 := cell_of_blk gb 0
 have c1 := cell_of_blk gb 1
 have f0 := free_of_blk gb 0
 have f1 := free_of_blk gb 1
 go_region_o
 go_wp2_with fail
 exact bodyPost_ret (results_row_tmp rfl _ _ w.heap.size #[.slice A la ca, .slice B lb cb] rfl (run_loadVar_row _ w.heap.size 204 204 _ (0, 0) _ (heap_new8 w _) Tryz.underlying204 rfl (by kernel_rfl))) rfl ⟨rfl, ((Keeps.refl [] w).alloc _).drew⟩

end Go.Proofs.YtbfebljahjmjfaaGreatDoor
/- ber: the reference's flaws. -/
namespace Go.Proofs.YtbfebljahjmjfaaGreatDoor
open Go.RowKit Go.Shelf
set_option linter.unusedVariables false
set_option linter.unusedSimpArgs false
set_option maxRecDepth 100000

mutual
/-- Has something in a value what may not be? -/
def badB : BV → Bool
 | .mk c n k b l => !stands (.mk c n k b l) || badL l
def badL : List BV → Bool
 | [] => false
 | t :: r => badB t || badL r
end
theorem badL_snoc : ∀ (l : List BV) (t : BV), badL (l ++ [t]) = (badL l || badB t)
 | [], t => by simp [badL]
 | x :: r, t => by simp [badL, badL_snoc r t, Bool.or_assoc]
mutual
/-- How high a value is. -/
def hgtB : BV → Nat
 | .mk _ _ _ _ l => hgtL l + 1
def hgtL : List BV → Nat
 | [] => 0
 | t :: r => max (hgtB t) (hgtL r)
end
theorem hgtL_mem : ∀ (l : List BV) (t : BV), t ∈ l → hgtB t ≤ hgtL l
 | x :: r, t, hm => by
  unfold hgtL
  rcases List.mem_cons.1 hm with hm | hm
  ·subst hm; exact Nat.le_max_left _ _
  ·exact Nat.le_trans (hgtL_mem r t hm) (Nat.le_max_right _ _)
/-- What may not be, as the reference says it. -/
def flawV (c n : Nat) (k : Bool) (la lb : Nat) : Bool := (decide ((3 : Int) < (c : Int)) || decide ((30 : Int) < (n : Int))) || (k && decide ((0 : Int) < (la : Int))) || (!k && decide ((0 : Int) < (lb : Int)))
theorem flaw_stands (c n : Nat) (k : Bool) (b : List UInt8) (l : List BV) : flawV c n k b.length l.length = !stands (.mk c n k b l) := by
 show flawV c n k b.length l.length = !(decide (c ≤ 3) && (decide (n < 31) && decide ((if k then b.length else l.length) = 0)))
 unfold flawV
 generalize b.length = x
 generalize l.length = y
 have e1 : decide ((3 : Int) < (c : Int)) = !decide (c ≤ 3) := by rw [← decide_not]; congr 1; apply propext; omega
 have e2 : decide ((30 : Int) < (n : Int)) = !decide (n < 31) := by rw [← decide_not]; congr 1; apply propext; omega
 have e3 : ∀ z : Nat, decide ((0 : Int) < (z : Int)) = !decide (z = 0) := fun z => by rw [← decide_not]; congr 1; apply propext; omega
 rw [e1, e2, e3, e3]
 cases k <;> simp only [if_true, if_false, Bool.false_eq_true, reduceIte] <;> cases decide (c ≤ 3) <;> cases decide (n < 31) <;> cases decide (x = 0) <;> cases decide (y = 0) <;> rfl

end Go.Proofs.YtbfebljahjmjfaaGreatDoor
