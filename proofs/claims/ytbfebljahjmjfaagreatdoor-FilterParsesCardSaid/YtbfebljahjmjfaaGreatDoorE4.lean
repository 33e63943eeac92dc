
/- ber: IntOf, TruthOf. -/
import Derived.Test.YtbfebljahjmjfaaGreatDoorE3
namespace Go.Proofs.YtbfebljahjmjfaaGreatDoor
open Go.RowKit Go.Shelf
set_option linter.unusedVariables false
set_option linter.unusedSimpArgs false
set_option maxRecDepth 100000

theorem conv_bytes {w : World} {v : Value} {xs : List UInt8} (h : BytesAt w v xs) : (convert 37 9 v).run Tryz.prog w = .ok (.string ⟨xs.toArray⟩) w := by
  have h0 := h
  obtain ⟨A, c, rfl, h1, h2, h3⟩ := h
  rcases A with _ | a
  · have hx : xs = [] := by
      rcases Nat.eq_zero_or_pos xs.length with h | h
      · exact List.eq_nil_of_length_eq_zero h
      · obtain ⟨_, _, h, _⟩ := h3 h; cases h
    subst hx
    exact run_convert_bytes_nil w 37 5 Tryz.underlying37 Tryz.underlying5 _ _ 9 Tryz.underlying9
  · refine run_convert_bytes_back w 37 9 5 a c xs Tryz.underlying37 Tryz.underlying5 Tryz.underlying9 fun j hj => ?_
    exact h0.cells j _ (by simp [List.getElem?_eq_getElem hj, bv])

theorem equal_any (v u : Value) (xs ys : List UInt8) (w : World) (hv : BytesAt w v xs) (hu : BytesAt w u ys) :
    Calls Tryz.prog 185 #[v, u] w fun e w' => e = .returned (.bool (xs == ys)) ∧ w = w' := by
  have h1 := conv_bytes hv
  have h2 := conv_bytes hu
  obtain ⟨A, c, rfl, _⟩ := hv
  obtain ⟨B, d, rfl, _⟩ := hu
  go_enter Tryz.func185, Tryz.ntmps185
  go_wp2
  go_ret
  exact ⟨rfl, rfl⟩

attribute [local go_sem] Oper.semAt_some
theorem slice_from (A : Option Addr) (n c at_ : Nat) (xs : List UInt8) (hn : xs.length = n) (hnc : n ≤ c) (hcm : c ≤ 9223372036854775807) (ha : at_ ≤ n) (hA : 0 < n → ∃ b o, A = some ⟨b, o, none⟩) :
    ∃ B d, (∀ W, (Instr.slice 37 (.slice A n c) (some (.int .i64 (at_ : Int))) none none).run Tryz.prog W = .ok (.slice B (n - at_) d) W) ∧ ∀ W, BytesAt W (.slice A n c) xs → BytesAt W (.slice B (n - at_) d) (xs.drop at_) := by
  have hr : ∀ W, (Instr.slice 37 (.slice A n c) (some (.int .i64 (at_ : Int))) none none).run Tryz.prog W = .ok (.slice (if c = at_ then A else A.map (·.add at_)) (n - at_) (c - at_)) W := by
    intro W
    rw [run_slice_l W 37 A n c (by simp [Program.elem, Tryz.underlying37]) .i64 _ (by omega) (by omega)]
    rw [show Tryz.prog.elem 37 = 5 by simp [Program.elem, Tryz.underlying37], Tryz.sizeOf5]
    simp [Result.andThen, sliced]
  refine ⟨_, _, hr, fun W hb => ?_⟩
  obtain ⟨A', c', he, h1, h2, h3⟩ := hb
  injection he with e1 e2 e3
  subst e1 e3
  refine ⟨_, _, by rw [List.length_drop, hn], by rw [List.length_drop]; omega, by omega, fun hp => ?_⟩
  rw [List.length_drop] at hp
  obtain ⟨b, o, rfl, hc⟩ := h3 (by omega)
  refine ⟨b, o + at_, ?_, fun i u hu => ?_⟩
  · rw [if_neg (by omega)]
    simp [add_at]
  · rw [List.getElem?_drop] at hu
    have := hc (at_ + i) u hu
    rwa [← Nat.add_assoc] at this

theorem BytesAt.from {w : World} {b o n c : Nat} {xs : List UInt8} (h : BytesAt w (.slice (some ⟨b, o, none⟩) n c) xs) {k : Nat} (hk : k ≤ n) : BytesAt w (.slice (some ⟨b, o + k, none⟩) (n - k) (c - k)) (xs.drop k) := by
  obtain ⟨A', c', he, h1, h2, h3⟩ := h
  injection he with he1 he2 he3
  subst he1 he3
  refine ⟨some ⟨b, o + k, none⟩, c - k, by rw [List.length_drop, he2], by rw [List.length_drop]; omega, by omega, fun hp => ?_⟩
  rw [List.length_drop] at hp
  obtain ⟨b', o', hb, hc⟩ := h3 (by omega)
  injection hb with hb
  injection hb with hb1 hb2
  subst hb1 hb2
  refine ⟨b, o + k, rfl, fun i u hu => ?_⟩
  rw [List.getElem?_drop] at hu
  have := hc (k + i) u hu
  rwa [← Nat.add_assoc] at this

theorem BytesAt.part {w : World} {b o n c : Nat} {xs : List UInt8} (h : BytesAt w (.slice (some ⟨b, o, none⟩) n c) xs) {i m : Nat} (hk : i + m ≤ n) (hn : xs.length = n) : BytesAt w (.slice (some ⟨b, o + i, none⟩) m (c - i)) ((xs.drop i).take m) := by
  obtain ⟨A', c', he, h1, h2, h3⟩ := h
  injection he with he1 he2 he3
  subst he1 he3
  have hl : ((xs.drop i).take m).length = m := by rw [List.length_take, List.length_drop]; omega
  refine ⟨some ⟨b, o + i, none⟩, c - i, by rw [hl], by omega, by omega, fun hp => ?_⟩
  obtain ⟨b', o', hb, hc⟩ := h3 (by omega)
  injection hb with hb
  injection hb with hb1 hb2
  subst hb1 hb2
  refine ⟨b, o + i, rfl, fun j u hu => ?_⟩
  rw [List.getElem?_take] at hu
  split at hu
  · rw [List.getElem?_drop] at hu
    have := hc (i + j) u hu
    rwa [← Nat.add_assoc] at this
  · cases hu

/-- The number of bytes, two's complement. -/
def sgnB : List UInt8 → Int
  | [] => 0
  | x :: r => numZ (if x.toNat < 128 then (x.toNat : Int) else (x.toNat : Int) - 256) r
def isFew (xs : List UInt8) : Bool := decide (1 ≤ xs.length ∧ xs.length ≤ 8) && (xs == fewB (sgnB xs))

theorem eq255 (x : UInt8) : ((x.toNat : Int) == 255) = (x == 255) := by
  rw [Bool.eq_iff_iff, beq_iff_eq, beq_iff_eq]
  constructor
  · intro h; apply UInt8.toNat_inj.1; show x.toNat = 255; omega
  · intro h; subst h; rfl
theorem eq0 (x : UInt8) : ((x.toNat : Int) == 0) = (x == 0) := by
  rw [Bool.eq_iff_iff, beq_iff_eq, beq_iff_eq]
  constructor
  · intro h; apply UInt8.toNat_inj.1; show x.toNat = 0; omega
  · intro h; subst h; rfl
/-- What TruthOf answers. -/
def truthR (k : Bool) (xs : List UInt8) : Value := .tuple #[.bool (!k && (xs == [255])), .bool (!k && (xs == [255] || xs == [0]))]
theorem truthR_len {xs : List UInt8} (h : xs.length ≠ 1) : truthR false xs = .tuple #[.bool false, .bool false] := by
  have h1 : (xs == [255]) = false := by
    rw [beq_eq_false_iff_ne]; rintro rfl; exact h rfl
  have h2 : (xs == [0]) = false := by
    rw [beq_eq_false_iff_ne]; rintro rfl; exact h rfl
  unfold truthR
  rw [h1, h2]
  rfl
theorem truthR_one (x : UInt8) : truthR false [x] = .tuple #[.bool ((x.toNat : Int) == 255), .bool ((x.toNat : Int) == 255 || (x.toNat : Int) == 0)] := by
  rw [eq255, eq0]
  unfold truthR
  simp

theorem truthof_is (c n : Nat) (k : Bool) (A B : Option Addr) (la ca lb cb : Nat) (xs : List UInt8) (w : World) (hl : xs.length = la) (hb : BytesAt w (.slice A la ca) xs) :
    Calls Tryz.prog 280 #[.agg #[.int .u8 (c : Int), .int .u8 (n : Int), .bool k, .slice A la ca, .slice B lb cb]] w fun e w' => e = .returned (truthR k xs) ∧ Keeps [] w w' := by
  have HK : Hid (Keeps [] w (w.alloc (.cells #[.int .u8 (c : Int), .int .u8 (n : Int), .bool k, .slice A la ca, .slice B lb cb] 40))) := (Keeps.refl [] w).alloc _
  cases k
  · by_cases h1 : la = 1
    · subst h1
      obtain ⟨b, o, rfl, hc⟩ := bytes_addr hb (by omega)
      match xs, hl with
      | [x], _ =>
        have c0 := (HK.out.cell (lt_of_cell (hc 0 x rfl)) (by simp)).trans (hc 0 x rfl)
        rw [Nat.add_zero] at c0
        rw [truthR_one]
        clear hc hb
        go_enter Tryz.func280, Tryz.ntmps280
        go_wp2_with fail
        all_goals go_ret2
        all_goals refine ⟨?_, HK.out⟩
        all_goals rename_i hx
        all_goals simp [hx]
    · rw [truthR_len (by omega)]
      go_enter Tryz.func280, Tryz.ntmps280
      go_wp2_with fail
      go_ret2
      exact ⟨rfl, HK.out⟩
  · go_enter Tryz.func280, Tryz.ntmps280
    go_wp2_with fail
    go_ret2
    exact ⟨rfl, HK.out⟩

/-- What IntOf answers. -/
def intR (k : Bool) (xs : List UInt8) : Value := if !k && isFew xs then .tuple #[.int .i64 (sgnB xs), .bool true] else .tuple #[.int .i64 0, .bool false]

theorem sgn_head (x : UInt8) : IntKind.i64.wrap (IntKind.i8.wrap (x.toNat : Int)) = if x.toNat < 128 then (x.toNat : Int) else (x.toNat : Int) - 256 := by
  have hx : x.toNat < 256 := x.toNat_lt
  have e0 : IntKind.i8.wrap (x.toNat : Int) = (if (x.toNat : Int) % 256 ≥ 128 then (x.toNat : Int) % 256 - 256 else (x.toNat : Int) % 256) := by simp [IntKind.wrap, IntKind.bits, IntKind.signed]
  rw [IntWalk.i64_in _ (by rw [e0]; split <;> omega), e0]
  split <;> split <;> omega
theorem numZ_in : ∀ (xs : List UInt8) (a : Int), -9223372036854775808 ≤ a ∧ a ≤ 9223372036854775807 → -9223372036854775808 ≤ numZ a xs ∧ numZ a xs ≤ 9223372036854775807
  | [], a, h => h
  | x :: r, a, h => by
    obtain ⟨z1, z2, z3⟩ := wrap64_256 a
    have hul : x.toNat < 256 := x.toNat_lt
    exact numZ_in r _ (by omega)

theorem intof_is (c n : Nat) (k : Bool) (A B : Option Addr) (la ca lb cb : Nat) (xs : List UInt8) (w : World) (hl : xs.length = la) (hb : BytesAt w (.slice A la ca) xs) :
    Calls Tryz.prog 182 #[.agg #[.int .u8 (c : Int), .int .u8 (n : Int), .bool k, .slice A la ca, .slice B lb cb]] w fun e w' => e = .returned (intR k xs) ∧ Keeps [] w w' := by
  have HK : Hid (Keeps [] w (w.alloc (.cells #[.int .u8 (c : Int), .int .u8 (n : Int), .bool k, .slice A la ca, .slice B lb cb] 40))) := (Keeps.refl [] w).alloc _
  cases k
  · by_cases h1 : la < 1
    · have e : intR false xs = .tuple #[.int .i64 0, .bool false] := by
        have h2 : isFew xs = false := by unfold isFew; rw [decide_eq_false (by omega)]; rfl
        unfold intR; rw [h2]; rfl
      rw [e]
      go_enter Tryz.func182, Tryz.ntmps182
      go_wp2_with fail
      go_ret2
      exact ⟨rfl, HK.out⟩
    by_cases h8 : 8 < la
    · have e : intR false xs = .tuple #[.int .i64 0, .bool false] := by
        have h2 : isFew xs = false := by unfold isFew; rw [decide_eq_false (by omega)]; rfl
        unfold intR; rw [h2]; rfl
      rw [e]
      go_enter Tryz.func182, Tryz.ntmps182
      go_wp2_with fail
      go_ret2
      exact ⟨rfl, HK.out⟩
    obtain ⟨x, r, rfl⟩ : ∃ x r, xs = x :: r := by
      cases xs with
      | nil => simp at hl; omega
      | cons x r => exact ⟨x, r, rfl⟩
    obtain ⟨b, o, rfl, hc⟩ := bytes_addr hb (by omega)
    have hcap : la ≤ ca := by obtain ⟨A', c', he, h2, _⟩ := hb; injection he with _ h3 h4; omega
    have hrl : r.length = la - 1 := by simp at hl; omega
    obtain ⟨W1, hW1⟩ : ∃ W1, w.alloc (.cells #[.int .u8 (c : Int), .int .u8 (n : Int), .bool false, .slice (some ⟨b, o, none⟩) la ca, .slice B lb cb] 40) = W1 := ⟨_, rfl⟩
    rw [hW1] at HK
    have c0 := (HK.out.cell (lt_of_cell (hc 0 x rfl)) (by simp)).trans (hc 0 x rfl)
    rw [Nat.add_zero] at c0
    have hr1 : W1.heap[w.heap.size]? = some (.cells #[.int .u8 (c : Int), .int .u8 (n : Int), .bool false, .slice (some ⟨b, o, none⟩) la ca, .slice B lb cb] 40 (0, 0)) := by
      rw [← hW1]
      exact heap_new8 w _
    obtain ⟨⟨g0, g1, g2, g3, g4⟩, _⟩ := five_facts hr1
    clear hr1 hc
    obtain ⟨B', d', hsl, hsb⟩ := slice_from (some ⟨b, o, none⟩) la ca 1 (x :: r) hl hcap (by obtain ⟨A', c', he, h2, h3⟩ := hb; injection he with _ _ h4; unfold maxLen at h3; omega) (by omega) (fun _ => ⟨_, _, rfl⟩)
    have hsl : ∀ W, (Instr.slice 37 (.slice (some ⟨b, o, none⟩) la ca) (some (.int .i64 1)) none none).run Tryz.prog W = .ok (.slice B' (la - 1) d') W := hsl
    have hx : x.toNat < 256 := x.toNat_lt
    have hw : -9223372036854775808 ≤ IntKind.i64.wrap (IntKind.i8.wrap (x.toNat : Int)) ∧ IntKind.i64.wrap (IntKind.i8.wrap (x.toNat : Int)) ≤ 9223372036854775807 := by rw [sgn_head]; split <;> omega
    have HN := Lib.hid (fun X (hk : Keeps [] W1 X) => num64_is (IntKind.i64.wrap (IntKind.i8.wrap (x.toNat : Int))) B' (la - 1) d' r X hw hrl (by omega) (hsb X (hb.grow (HK.out.trans' hk))))
    have HB := Lib.hid (fun X (hk : Keeps [] W1 X) => hb.grow (HK.out.trans' hk))
    have HC3 := Lib.hid (fun X (hk : Keeps [] W1 X) => (hk.cell (lt_of_cell g3) (by simp)).trans g3)
    have HZ := Lib.hid (numZ_in r _ hw)
    have HLA := Lib.hid hl
    have mixed : Tryz.prog.follows .mixedOrders = true := by kernel_rfl
    have hle : ¬ (la : Int) < 1 := by omega
    have hl0 : 0 < la := by omega
    clear hb hsb hw hx hcap hrl hl g0 g1 g4
    go_enter Tryz.func182, Tryz.ntmps182
    go_wp2_with fail
    go_region_held3 (fun w' => w'.cell? ⟨w.heap.size, 3, none⟩ = some (.slice (some ⟨b, o, none⟩) la ca) ∧ w'.cell? ⟨b, o, none⟩ = some (.int .u8 (x.toNat : Int))) (first | exact ⟨g3, c0⟩ | go_keep) (first | (go_at_call 241; refine (HN.out _ (by repeat (first | exact Keeps.refl [] _ | refine Keeps.drew ?_))).mono ?_; rintro e w' ⟨rfl, rfl⟩))
    have y0 := HC3.out W1.drew (Keeps.refl [] _).drew
    go_wp2_with fail
    go_region_held3 (fun w' => w'.cell? ⟨w.heap.size, 3, none⟩ = some (.slice (some ⟨b, o, none⟩) la ca)) (first | exact y0 | exact y1 | go_keep) (first | (go_at_call 174; refine (few64_is _ _ HZ.out).mono ?_; rintro e w2 ⟨A2, c2, rfl, ho2, hk2⟩; have HO2 := Lib.hid (BytesAt.of_own ho2); have kk := Keeps.trans' (a := W1) (bs := []) (by repeat (first | exact Keeps.refl [] _ | refine Keeps.drew ?_)) hk2; have HKK := Lib.hid kk; have y1 := HC3.out w2 kk; clear ho2 hk2 kk) | (go_at_call 185; refine (equal_any _ _ (x :: r) (fewB (numZ (IntKind.i64.wrap (IntKind.i8.wrap (x.toNat : Int))) r)) _ (HB.out _ (by repeat (first | exact HKK.out | exact Keeps.refl [] _ | refine Keeps.drew ?_))) (HO2.out.grow (by repeat (first | exact Keeps.refl [] _ | refine Keeps.drew ?_)))).mono ?_; rintro e w3 ⟨rfl, rfl⟩))
    all_goals have HKW := Lib.hid (HK.out.trans' HKK.out)
    all_goals have HIF : Hid (isFew (x :: r) = (x :: r == fewB (numZ (IntKind.i64.wrap (IntKind.i8.wrap (x.toNat : Int))) r))) := (by
      show _ = _
      unfold isFew
      rw [decide_eq_true (by have := HLA.out; omega), Bool.true_and]
      unfold sgnB
      rw [sgn_head])
    all_goals have HSG : Hid (sgnB (x :: r) = numZ (IntKind.i64.wrap (IntKind.i8.wrap (x.toNat : Int))) r) := (by
      show _ = _
      unfold sgnB
      rw [sgn_head])
    all_goals clear y1 HO2
    all_goals go_wp2_with fail
    all_goals go_ret2
    all_goals refine ⟨?_, HKW.out⟩
    all_goals unfold intR
    all_goals rw [HIF.out, HSG.out]
    all_goals rename_i hx
    all_goals simp at hx
    all_goals simp [hx]
  · go_enter Tryz.func182, Tryz.ntmps182
    go_wp2_with fail
    go_ret2
    exact ⟨rfl, HK.out⟩
end Go.Proofs.YtbfebljahjmjfaaGreatDoor
