/- Texts of one proof, laid together: E14 E15 E16 E17. -/
import Derived.Test.YtnengckecooohaaM06
/- ber: a tag, a length read. -/
namespace Go.Proofs.Ytnengckecooohaa
open Go.RowKit Go.Shelf
set_option linter.unusedVariables false
set_option linter.unusedSimpArgs false
set_option maxRecDepth 100000

theorem tag_bits (x : UInt8) : bits .and .u8 (x.toNat : Int) 31 = ((x.toNat % 32 : Nat) : Int) ∧ bits .and .u8 (x.toNat : Int) 32 = ((x.toNat / 32 % 2 * 32 : Nat) : Int) := by
  have hx : x.toNat < 256 := x.toNat_lt
  refine ⟨?_, ?_⟩
  · have h := u8_and_nat x.toNat 31 hx (by decide)
    rw [nat_mask5] at h
    exact h
  · have h := u8_and_nat x.toNat 32 hx (by decide)
    rw [show (32 : Nat) = 2 ^ 5 from rfl, nat_bit 5] at h
    exact h

theorem BytesAt.keep0 {w w' : World} {v : Value} {xs : List UInt8} {bs : List Nat} (h : BytesAt w v xs) (hk : Keeps bs w w') (hb : 0 < xs.length → ∀ b, v.ownBlock = some b → b ∉ bs) : BytesAt w' v xs := by
  obtain ⟨A, c, rfl, h1, h2, h3⟩ := h
  refine ⟨A, c, rfl, h1, h2, fun hp => ?_⟩
  obtain ⟨b, o, rfl, hc⟩ := h3 hp
  refine ⟨b, o, rfl, fun i u hu => ?_⟩
  have := hc i u hu
  rw [hk.cell (lt_of_cell this) (hb hp b rfl)]
  exact this
theorem RestAt.keep {w w' : World} {r m c : Nat} {xs : List UInt8} {A : Option Addr} {bs : List Nat} (h : RestAt w r xs A m c) (hk : Keeps bs w w') (hr : r ∉ bs) (hb : 0 < xs.length → ∀ b, (Value.slice A m c).ownBlock = some b → b ∉ bs) : RestAt w' r xs A m c := by
  have hrl : r < w.heap.size := lt_of_cell h.cell
  refine ⟨(hk.cell (p := ⟨r, 0, none⟩) hrl hr).trans h.cell, ?_, h.len, h.bytes.keep0 hk hb, h.apart⟩
  have e : w'.frozen? ⟨r, 0, none⟩ = w.frozen? ⟨r, 0, none⟩ := by
    unfold World.frozen?
    rw [hk.block r hrl hr]
  rw [e]
  exact h.free
theorem RestAt.lt {w : World} {r m c : Nat} {xs : List UInt8} {A : Option Addr} (h : RestAt w r xs A m c) (hn : 0 < xs.length) : ∀ b, (Value.slice A m c).ownBlock = some b → b < w.heap.size := fun b hb => h.bytes.lt hn b hb

theorem tag_none (r : Nat) (A : Option Addr) (c : Nat) (w : World) (hc : w.cell? ⟨r, 0, none⟩ = some (.slice A 0 c)) : Calls Try.prog 59 #[.pointer (some ⟨r, 0, none⟩)] w fun e w' => e = gaveUp 151 ∧ Keeps [] w w' := by
  have HT := Lib.hid (fun X (h : X.cell? ⟨r, 0, none⟩ = some (.slice A 0 c)) => take_no r A 0 c 1 X h (by decide))
  have hc2 : (w.alloc (.cells #[.int .u8 0, .int .u8 0, .bool false, .slice none 0 0, .slice none 0 0] 25)).cell? ⟨r, 0, none⟩ = some (.slice A 0 c) := (World.cell?_alloc_lt _ _ _ (lt_of_cell hc)).trans hc
  go_enter Try.func59, Try.ntmps59
  go_wp2_with fail
  refine (HT.out _ hc2).mono ?_
  rintro e w1 ⟨rfl, rfl⟩
  go_wp2_with fail
  exact ⟨rfl, rfl, (Keeps.refl [] w).alloc _⟩

/-- How a tag ends. -/
def TagQ (r : Nat) (x : UInt8) (xs : List UInt8) (w : World) (e : Ending) (w' : World) : Prop :=
  (x.toNat % 32 = 31 ∧ e = gaveUp 151 ∨ x.toNat % 32 ≠ 31 ∧ e = .returned (.agg #[.int .u8 ((x.toNat / 64 : Nat) : Int), .int .u8 ((x.toNat % 32 : Nat) : Int), .bool (decide (x.toNat / 32 % 2 = 1)), .slice none 0 0, .slice none 0 0])) ∧ Keeps [r] w w' ∧ ∃ C f, RestAt w' r xs C xs.length f

theorem tag_is (r : Nat) (A : Option Addr) (m c : Nat) (x : UInt8) (xs : List UInt8) (w : World) (h : RestAt w r (x :: xs) A m c) : Calls Try.prog 59 #[.pointer (some ⟨r, 0, none⟩)] w (TagQ r x xs w) := by
  have hm : m = xs.length + 1 := by have := h.len; simp at this; omega
  subst hm
  obtain ⟨W0, hW0⟩ : ∃ W0, w.alloc (.cells #[.int .u8 0, .int .u8 0, .bool false, .slice none 0 0, .slice none 0 0] 25) = W0 := ⟨_, rfl⟩
  have hk0 : Keeps [] w W0 := by rw [← hW0]; exact (Keeps.refl [] w).alloc _
  have hr0 : W0.heap[w.heap.size]? = some (.cells #[.int .u8 0, .int .u8 0, .bool false, .slice none 0 0, .slice none 0 0] 25 (0, 0)) := by rw [← hW0]; exact heap_new8 w _
  have hrl : r < w.heap.size := lt_of_cell h.cell
  have hf0 : W0.frozen? ⟨r, 0, none⟩ = false := by
    rw [← hW0, frozen_alloc8 _ _ _ hrl]
    exact h.free
  have HT := Lib.hid (take_yes r A (xs.length + 1) c 1 (x :: xs) W0 ((hk0.cell (p := ⟨r, 0, none⟩) hrl (by simp)).trans h.cell) hf0 h.len (h.bytes.grow hk0) (by omega) h.apart)
  have HC0 := Lib.hid ((hk0.cell (p := ⟨r, 0, none⟩) hrl (by simp)).trans h.cell)
  have HF0 := Lib.hid hf0
  have HK0 := Lib.hid hk0
  have HR0 := Lib.hid hr0
  obtain ⟨t1, t2⟩ := tag_bits x
  have hx : x.toNat < 256 := x.toNat_lt
  have HAP := Lib.hid h.apart
  have HAL := Lib.hid (fun b (hb : (Value.slice A (xs.length + 1) c).ownBlock = some b) => h.lt (by simp) b hb)
  clear h hk0 hr0 hf0
  go_enter Try.func59, Try.ntmps59
  go_wp2_with fail
  refine HT.out.mono ?_
  rintro e w1 ⟨C, f, rfl, hw1, hb1, hb2, hCa⟩
  rw [Nat.add_sub_cancel] at hw1 hb2
  simp only [List.take_succ_cons, List.take_zero, List.drop_succ_cons, List.drop_zero] at hb1 hb2
  obtain ⟨b, o, rfl, hcc⟩ := bytes_addr hb1 (by decide)
  have c0 := hcc 0 x rfl
  rw [Nat.add_zero] at c0
  have hk1 : Keeps [r] W0 w1 := by rw [hw1]; exact (Keeps.refl _ _).setCell (.inl (by simp)) _
  have hrest : RestAt w1 r xs C xs.length f := ⟨by rw [hw1]; first | exact World.cell?_setCell_same _ _ _ HC0.out | simp [go_sem, HC0.out], by rw [hw1]; first | (rw [World.frozen?_setCell]; exact HF0.out) | simp [go_sem, HF0.out], rfl, hb2, fun a ha => by obtain ⟨a2, h3, h4⟩ := hCa a ha; rw [h4]; exact HAP.out a2 h3⟩
  have HCL : Hid (0 < xs.length → ∀ b, (Value.slice C xs.length f).ownBlock = some b → b < w.heap.size) := fun _ b9 hb9 => by
    cases C with
    | none => simp [Value.ownBlock] at hb9
    | some a =>
      simp [Value.ownBlock] at hb9
      obtain ⟨a2, h3, h4⟩ := hCa a rfl
      rw [← hb9, h4]
      exact HAL.out _ (by rw [h3]; rfl)
  have HRE := Lib.hid hrest
  have HK1 := Lib.hid (Keeps.trans' (HK0.out.mono (by simp)) hk1)
  have hrow1 : w1.heap[w.heap.size]? = some (.cells #[.int .u8 0, .int .u8 0, .bool false, .slice none 0 0, .slice none 0 0] 25 (0, 0)) := blk_keep HR0.out hk1 (by simp; omega)
  have HR1 := Lib.hid hrow1
  obtain ⟨⟨g0, g1, g2, g3, g4⟩, ⟨f0, f1, f2, f3, f4⟩⟩ := five_facts hrow1
  clear hcc hb1 hb2 hCa hk1 hrest hrow1 hw1 HT
  by_cases h31 : x.toNat % 32 = 31
  · rw [h31] at t1
    have hpn : ∀ W, (Instr.panic (.iface 28 (.int .i64 151))).run Try.prog W = .halt (.panic (.iface 28 (.int .i64 151))) W := fun _ => rfl
    have H31 := Lib.hid h31
    clear h31
    go_wp2_with fail
    exact ⟨rfl, .inl ⟨H31.out, rfl⟩, HK1.out, C, f, HRE.out⟩
  · have h31' : ¬ ((x.toNat % 32 : Nat) : Int) = 31 := by omega
    have HN := Lib.hid h31
    clear h31
    go_wp2_with fail
    have hKF := five_keep (v0 := .int .u8 ((x.toNat : Int) / 64)) (v1 := .int .u8 ((x.toNat : Int) % 32)) (v2 := .bool ((x.toNat : Int) / 32 % 2 * 32 != 0)) (v3 := .slice none 0 0) (v4 := .slice none 0 0) HK1.out (g := w.heap.size) (.inr (Nat.le_refl _))
    have hrow := five_set (v0 := .int .u8 ((x.toNat : Int) / 64)) (v1 := .int .u8 ((x.toNat : Int) % 32)) (v2 := .bool ((x.toNat : Int) / 32 % 2 * 32 != 0)) (v3 := .slice none 0 0) (v4 := .slice none 0 0) HR1.out
    have hk5 := five_keep (bs := [w.heap.size]) (v0 := .int .u8 ((x.toNat : Int) / 64)) (v1 := .int .u8 ((x.toNat : Int) % 32)) (v2 := .bool ((x.toNat : Int) / 32 % 2 * 32 != 0)) (v3 := .slice none 0 0) (v4 := .slice none 0 0) (Keeps.refl [w.heap.size] w1) (g := w.heap.size) (.inl (by simp))
    have HKF := Lib.hid hKF
    have HRW := Lib.hid hrow
    have HK5 := Lib.hid hk5
    refine ret_ber rfl rfl rfl HRW.out rfl ⟨.inr ⟨HN.out, ?_⟩, HKF.out, C, f, HRE.out.keep HK5.out (by simp; omega) (fun hn b hb hm => ?_)⟩
    · have e1 : (x.toNat : Int) / 64 = ((x.toNat / 64 : Nat) : Int) := by omega
      have e2 : (x.toNat : Int) % 32 = ((x.toNat % 32 : Nat) : Int) := by omega
      have e3 : ((x.toNat : Int) / 32 % 2 * 32 != 0) = decide (x.toNat / 32 % 2 = 1) := by rw [Bool.eq_iff_iff]; simp; omega
      rw [e1, e2, e3]
    · rw [List.mem_singleton] at hm
      have := HCL.out hn b hb
      omega
end Go.Proofs.Ytnengckecooohaa
/- ber: a length read. -/
namespace Go.Proofs.Ytnengckecooohaa
open Go.RowKit Go.Shelf
set_option linter.unusedVariables false
set_option linter.unusedSimpArgs false
set_option maxRecDepth 100000

theorem take_rest (r : Nat) (A : Option Addr) (m c n : Nat) (xs : List UInt8) (w : World) (h : RestAt w r xs A m c) (hn : n ≤ m) :
    Calls Try.prog 61 #[.pointer (some ⟨r, 0, none⟩), .int .i64 (n : Int)] w fun e w' => e = .returned (.slice A n c) ∧ BytesAt w' (.slice A n c) (xs.take n) ∧ Keeps [r] w w' ∧ ∃ C f, RestAt w' r (xs.drop n) C (m - n) f ∧ (∀ a, C = some a → ∃ a2, A = some a2 ∧ a.block = a2.block) := by
  refine (take_yes r A m c n xs w h.cell h.free h.len h.bytes hn h.apart).mono ?_
  rintro e w' ⟨C, f, rfl, rfl, hb1, hb2, hCa⟩
  refine ⟨rfl, hb1, (Keeps.refl _ _).setCell (.inl (by simp)) _, C, f, ⟨?_, ?_, by rw [List.length_drop, h.len], hb2, fun a ha => ?_⟩, hCa⟩
  · have := h.cell
    first | exact World.cell?_setCell_same _ _ _ this | simp [go_sem, this]
  · have := h.free
    first | (rw [World.frozen?_setCell]; exact this) | simp [go_sem, this]
  · obtain ⟨a2, h3, h4⟩ := hCa a ha
    rw [h4]
    exact h.apart a2 h3

/-- A length, and what is behind it. -/
def lenR : List UInt8 → Option (Nat × List UInt8)
  | [] => none
  | x :: r => if x.toNat < 128 then some (x.toNat, r) else if r.length < x.toNat - 128 then none
    else if numZ 0 (r.take (x.toNat - 128)) < 128 ∨ (r.take (x.toNat - 128) == (lenB (numZ 0 (r.take (x.toNat - 128))).toNat).drop 1) = false then none
    else some ((numZ 0 (r.take (x.toNat - 128))).toNat, r.drop (x.toNat - 128))
def LenQ (r : Nat) (A : Option Addr) (xs : List UInt8) (w : World) (e : Ending) (w' : World) : Prop :=
  ((∃ n rest, lenR xs = some (n, rest) ∧ e = .returned (.int .i64 (n : Int)) ∧ ∃ C f, RestAt w' r rest C rest.length f ∧ (∀ a, C = some a → ∃ a2, A = some a2 ∧ a.block = a2.block)) ∨ lenR xs = none ∧ e = gaveUp 151) ∧ Keeps [r] w w'

theorem rlen_none (r : Nat) (A : Option Addr) (c : Nat) (w : World) (hc : w.cell? ⟨r, 0, none⟩ = some (.slice A 0 c)) : Calls Try.prog 60 #[.pointer (some ⟨r, 0, none⟩)] w (LenQ r A [] w) := by
  have HT := Lib.hid (take_no r A 0 c 1 w hc (by decide))
  go_enter Try.func60, Try.ntmps60
  go_wp2_with fail
  refine HT.out.mono ?_
  rintro e w1 ⟨rfl, rfl⟩
  go_wp2_with fail
  exact ⟨rfl, .inr ⟨rfl, rfl⟩, Keeps.refl _ _⟩

set_option maxHeartbeats 1000000 in
theorem rlen_some (r : Nat) (A : Option Addr) (m c : Nat) (x : UInt8) (xs : List UInt8) (w : World) (h : RestAt w r (x :: xs) A m c) : Calls Try.prog 60 #[.pointer (some ⟨r, 0, none⟩)] w (LenQ r A (x :: xs) w) := by
  have hm : m = xs.length + 1 := by have := h.len; simp at this; omega
  subst hm
  have HT := Lib.hid (take_rest r A (xs.length + 1) c 1 (x :: xs) w h (by omega))
  have hx : x.toNat < 256 := x.toNat_lt
  clear h
  go_enter Try.func60, Try.ntmps60
  go_wp2_with fail
  refine HT.out.mono ?_
  rintro e w1 ⟨rfl, hb1, hk1, C, f, hr1, hCa⟩
  rw [Nat.add_sub_cancel] at hr1
  simp only [List.take_succ_cons, List.take_zero, List.drop_succ_cons, List.drop_zero] at hb1 hr1
  obtain ⟨b, o, rfl, hcc⟩ := bytes_addr hb1 (by decide)
  have c0 := hcc 0 x rfl
  rw [Nat.add_zero] at c0
  have HK1 := Lib.hid hk1
  have HR1 := Lib.hid hr1
  have HCA := Lib.hid hCa
  clear hcc hb1 hk1 hr1 hCa HT
  have hw64 : wrap64 (x.toNat : Int) = (x.toNat : Int) := by unfold wrap64; omega
  by_cases h128 : x.toNat < 128
  · have hi : (x.toNat : Int) < 128 := by omega
    have HE : Hid (lenR (x :: xs) = some (x.toNat, xs)) := by
      show (if x.toNat < 128 then some (x.toNat, xs) else _) = _
      rw [if_pos h128]
    go_wp2_with fail
    go_ret
    exact ⟨.inl ⟨_, _, HE.out, rfl, C, f, HR1.out, HCA.out⟩, HK1.out⟩
  · obtain ⟨q, hq⟩ : ∃ q : Nat, x.toNat = q + 128 := ⟨x.toNat - 128, by omega⟩
    have hi : ¬ ((q + 128 : Nat) : Int) < 128 := by omega
    have HQ := Lib.hid (show lenR (x :: xs) = if xs.length < q then none else if numZ 0 (xs.take q) < 128 ∨ (xs.take q == (lenB (numZ 0 (xs.take q)).toNat).drop 1) = false then none else some ((numZ 0 (xs.take q)).toNat, xs.drop q) by
      show (if x.toNat < 128 then _ else _) = _
      rw [if_neg h128, hq, Nat.add_sub_cancel])
    rw [hq] at c0 hx
    have c0' : w1.cell? ⟨b, o, none⟩ = some (.int .u8 ((q : Int) + 128)) := by rw [c0]; congr 2
    have hq1 : q < 128 := by omega
    have hi2 : ¬ (q : Int) + 128 < 128 := by omega
    have ew : wrap64 ((q : Int) + 128) = (q : Int) + 128 := by unfold wrap64; omega
    have eq2 : wrap64 (q : Int) = (q : Int) := by unfold wrap64; omega
    clear hq h128 hx c0 hw64 hi
    by_cases hlt : xs.length < q
    · have HN : Hid (lenR (x :: xs) = none) := by
        show _ = _
        rw [HQ.out, if_pos hlt]
      have HT2 := Lib.hid (take_no r C xs.length f q w1 HR1.out.cell hlt)
      go_wp2_with fail
      refine HT2.out.mono ?_
      rintro e w2 ⟨rfl, rfl⟩
      go_wp2_with fail
      exact ⟨rfl, .inr ⟨HN.out, rfl⟩, HK1.out⟩
    · have HT2 := Lib.hid (take_rest r C xs.length f q xs w1 HR1.out (by omega))
      have hql : (xs.take q).length = q := by rw [List.length_take]; omega
      have hbd := numZ_in (xs.take q) 0 (by decide)
      have HQL := Lib.hid hql
      rw [if_neg hlt] at HQ
      clear hql hlt
      go_wp2_with fail
      refine HT2.out.mono ?_
      rintro e w2 ⟨rfl, hb2, hk2, D, g, hr2, hDa⟩
      have HK2 := Lib.hid (HK1.out.trans' hk2)
      have HB2 := Lib.hid hb2
      have HR2 := Lib.hid hr2
      have HDA : Hid (∀ a, D = some a → ∃ a2, some (⟨b, o, none⟩ : Addr) = some a2 ∧ a.block = a2.block) := fun a ha => by
        obtain ⟨a2, h3, h4⟩ := hDa a ha
        obtain ⟨a3, h5, h6⟩ := HCA.out a2 h3
        exact ⟨a3, h5, h4.trans h6⟩
      have HNI := Lib.hid (numI_is 0 C q f (xs.take q) w2 (by decide) HQL.out (by omega) hb2)
      clear hb2 hk2 hr2 hDa HT2
      generalize hyt : xs.take q = ys at *
      generalize hn0 : numZ 0 ys = n0 at *
      go_wp2_with fail
      refine HNI.out.mono ?_
      rintro e w3 ⟨rfl, rfl⟩
      by_cases hsm : n0 < 128
      · have HN : Hid (lenR (x :: xs) = none) := by
          show _ = _
          rw [HQ.out, if_pos (.inl hsm)]
        go_wp2_with fail
        exact ⟨rfl, .inr ⟨HN.out, rfl⟩, HK2.out⟩
      · obtain ⟨n, rfl⟩ := Int.eq_ofNat_of_zero_le (show 0 ≤ n0 by omega)
        have HLN := Lib.hid (lengthof_is n w2 (by omega))
        obtain ⟨hl1, hl9⟩ := lenB_len n
        rw [Int.toNat_natCast] at HQ
        generalize hlb : lenB n = lb at *
        go_wp2_with fail
        refine HLN.out.mono ?_
        rintro e w3 ⟨L, ld, rfl, hbl, hk3⟩
        have hcap : lb.length ≤ ld ∧ ld ≤ 9223372036854775807 := by obtain ⟨A', c', he, h2, h3⟩ := hbl; injection he with _ h4 h5; unfold maxLen at h3; omega
        obtain ⟨P, pd, hsl, hsb⟩ := slice_from L lb.length ld 1 lb rfl hcap.1 hcap.2 hl1 (fun h => by obtain ⟨b9, o9, h1, _⟩ := bytes_addr hbl h; exact ⟨b9, o9, h1⟩)
        have hsl : ∀ W, (Instr.slice 22 (.slice L lb.length ld) (some (.int .i64 1)) none none).run Try.prog W = .ok (.slice P (lb.length - 1) pd) W := hsl
        have HEQ := Lib.hid (equal_any (.slice C q f) (.slice P (lb.length - 1) pd) ys (lb.drop 1) w3 (HB2.out.grow hk3) (hsb w3 hbl))
        have HR3 := Lib.hid (HR2.out.keep hk3 (by simp) (by simp))
        have HK3 := Lib.hid (HK2.out.trans' (hk3.mono (by simp)))
        have HDL : Hid (xs.length - q = (xs.drop q).length) := by show _ = _; rw [List.length_drop]
        generalize hll : lb.length = ll at *
        clear hbl hk3 hsb hcap hl9
        go_wp2_with fail
        refine HEQ.out.mono ?_
        rintro e w4 ⟨rfl, rfl⟩
        cases hbq : (ys == lb.drop 1)
        · have HN : Hid (lenR (x :: xs) = none) := by
            show _ = _
            rw [HQ.out, if_pos (.inr hbq)]
          go_wp2_with fail
          exact ⟨rfl, .inr ⟨HN.out, rfl⟩, HK3.out⟩
        · have HN : Hid (lenR (x :: xs) = some (n, xs.drop q)) := by
            show _ = _
            rw [HQ.out, if_neg (by rintro (h | h); (omega); (rw [hbq] at h; cases h))]
          go_wp2_with fail
          go_ret
          exact ⟨.inl ⟨n, _, HN.out, rfl, D, g, by rw [← HDL.out]; exact HR3.out, HDA.out⟩, HK3.out⟩

end Go.Proofs.Ytnengckecooohaa
/- ber: the reference's own number in bytes (ref.Whole): the same bytes as fewB. -/
namespace Go.Proofs.Ytnengckecooohaa
open Go.RowKit Go.Shelf
set_option linter.unusedVariables false
set_option linter.unusedSimpArgs false
set_option maxRecDepth 100000

/-- A number's k lowest bytes, the lowest ahead. -/
def wholeK : Nat → Int → List UInt8
  | 0, _ => []
  | k + 1, n => n8 n :: wholeK k (n / 256)
theorem wholeK_len : ∀ (k : Nat) (n : Int), (wholeK k n).length = k
  | 0, _ => rfl
  | k + 1, n => by show (wholeK k (n / 256)).length + 1 = k + 1; rw [wholeK_len k]
theorem few_back {x : Int} {k : Nat} (hk : k ≤ 7) (h : -128 * 256 ^ k ≤ x / 256 ∧ x / 256 < 128 * 256 ^ k) : -128 * 256 ^ (k + 1) ≤ x ∧ x < 128 * 256 ^ (k + 1) := by
  match k, hk with
  | 0, _ | 1, _ | 2, _ | 3, _ | 4, _ | 5, _ | 6, _ | 7, _ => simp at h ⊢; omega
theorem few_one {x : Int} {k : Nat} (hk : k ≤ 7) (h : -128 ≤ x ∧ x ≤ 127) : -128 * 256 ^ k ≤ x ∧ x < 128 * 256 ^ k := by
  match k, hk with
  | 0, _ | 1, _ | 2, _ | 3, _ | 4, _ | 5, _ | 6, _ | 7, _ => simp; omega
theorem fewL_whole : ∀ (k d : Nat) (n : Int), k ≤ d → k ≤ 7 → -128 * 256 ^ k ≤ n ∧ n < 128 * 256 ^ k → (∀ j, k = j + 1 → ¬ (-128 * 256 ^ j ≤ n ∧ n < 128 * 256 ^ j)) → fewL d n = wholeK (k + 1) n
  | 0, d, n, _, _, h, _ => by
    rw [fewL_in d (by simp at h; omega)]
    rfl
  | k + 1, d, n, hd, hk, h, hn => by
    have hj := hn k rfl
    have ho : ¬ (-128 ≤ n ∧ n ≤ 127) := fun q => hj (few_one (by omega) q)
    obtain ⟨e, rfl⟩ : ∃ e, d = e + 1 := ⟨d - 1, by omega⟩
    rw [fewL_out e ho]
    obtain ⟨j, hjk, h1, h2⟩ := few_next hk h.1 h.2 ho
    obtain rfl : j = k := by omega
    rw [fewL_whole j e (n / 256) (by omega) (by omega) ⟨h1, h2⟩ (fun i hi q => by subst hi; exact hj (few_back (by omega) q))]
    rfl

/-- What the first loop of Whole has: the bytes found too few so far. -/
def WholeI (n lo mo : Int) (k : Nat) : Prop :=
  lo = -128 * 256 ^ k ∧ mo = 128 * 256 ^ k - 1 ∧ ∀ j, k = j + 1 → ¬ (-128 * 256 ^ j ≤ n ∧ n < 128 * 256 ^ j)
theorem WholeI.bound {n lo mo : Int} {k : Nat} (h : WholeI n lo mo k) (hk : k ≤ 7) : -9223372036854775808 ≤ lo ∧ lo ≤ -128 ∧ 127 ≤ mo ∧ mo ≤ 9223372036854775807 := by
  obtain ⟨h1, h2, _⟩ := h
  match k, hk with
  | 0, _ | 1, _ | 2, _ | 3, _ | 4, _ | 5, _ | 6, _ | 7, _ => simp at h1 h2; omega
theorem WholeI.low {n lo mo : Int} {k : Nat} (h : WholeI n lo mo k) (hk : k ≤ 6) : -36028797018963968 ≤ lo ∧ mo ≤ 36028797018963967 := by
  obtain ⟨h1, h2, _⟩ := h
  match k, hk with
  | 0, _ | 1, _ | 2, _ | 3, _ | 4, _ | 5, _ | 6, _ => simp at h1 h2; omega
theorem WholeI.next {n lo mo : Int} {k : Nat} (h : WholeI n lo mo k) (hx : ¬ (lo ≤ n ∧ n ≤ mo)) : WholeI n (256 * lo) (256 * mo + 255) (k + 1) := by
  obtain ⟨h1, h2, h3⟩ := h
  refine ⟨by rw [h1, Int.pow_succ]; omega, by rw [h2, Int.pow_succ]; omega, fun j hj q => ?_⟩
  obtain rfl : j = k := by omega
  exact hx (by omega)
theorem WholeI.done {n lo mo : Int} {k : Nat} (h : WholeI n lo mo k) (hk : k ≤ 7) (hx : lo ≤ n ∧ n ≤ mo) : fewL 7 n = wholeK (k + 1) n := by
  obtain ⟨h1, h2, h3⟩ := h
  exact fewL_whole k 7 n hk hk (by omega) h3
theorem WholeI.end7 {n lo mo : Int} (h : WholeI n lo mo 7) (hn : -9223372036854775808 ≤ n ∧ n ≤ 9223372036854775807) : lo ≤ n ∧ n ≤ mo := by
  obtain ⟨h1, h2, h3⟩ := h
  simp at h1 h2
  omega

theorem rem256 (x : Int) : (0 ≤ x.tmod 256 ∧ x.tmod 256 = x % 256) ∨ (x.tmod 256 < 0 ∧ x.tmod 256 + 256 = x % 256) := by
  rcases Int.le_total 0 x with h | h
  · left
    rw [Int.tmod_eq_emod_of_nonneg h]
    omega
  · have h1 : (-x).tmod 256 = (-x) % 256 := Int.tmod_eq_emod_of_nonneg (by omega)
    rw [Int.neg_tmod] at h1
    omega
theorem quo256 (x : Int) : (x - x % 256).tdiv 256 = x / 256 := by
  have e : x - x % 256 = 256 * (x / 256) := by omega
  rw [e, Int.mul_tdiv_cancel_left _ (by decide)]

def WholeR (w : World) (n x : Int) (kk i : Nat) (A : Option Addr) (c : Nat) (ys : List UInt8) (wr : World) : Prop :=
  ys.length = i ∧ ys.reverse ++ wholeK (kk - i) x = wholeK kk n ∧ wr.ownsRow w.heap.size 5 1 (.slice A i c) i (ys.map bv) ∧ Keeps [] w wr

set_option maxHeartbeats 1000000 in
theorem whole_is (n : Int) (w : World) (hn : -9223372036854775808 ≤ n ∧ n ≤ 9223372036854775807) :
    Calls Try.prog 23 #[.int .i64 n] w fun e w' => ∃ A c, e = .returned (.slice A (fewB n).length c) ∧ BytesAt w' (.slice A (fewB n).length c) (fewB n) ∧ Keeps [] w w' := by
  obtain ⟨iu, hiu, hzu0, hzu1, hzu2⟩ := info_parts u8_info
  go_enter Try.func23, Try.ntmps23
  go_wp2_with fail
  go_loopw [3, 4, 5] (fun a l m wr => ∃ (k : Nat) (lo mo : Int), a = .int .i64 ((k : Int) + 1) ∧ l = .int .i64 lo ∧ m = .int .i64 mo ∧ k ≤ 7 ∧ Hid (WholeI n lo mo k) ∧ wr = w) (fun a _ _ _ => 9 - (intOf a).toNat)
  case atStart => exact ⟨0, -128, 127, rfl, rfl, rfl, by omega, ⟨rfl, rfl, fun j hj => by omega⟩, rfl⟩
  case round =>
    obtain ⟨k, lo, mo, rfl, rfl, rfl, hk, HI, rfl⟩ := hrel
    have hb := HI.out.bound hk
    by_cases hin : lo ≤ n ∧ n ≤ mo
    · have HD := Lib.hid (HI.out.done hk hin)
      have HB := Lib.hid (show k + 1 ≤ 8 by omega)
      clear HI
      by_cases hk7 : k < 7
      · go_wp2_with fail
        obtain ⟨wo, rfl⟩ : ∃ wo : World, wo = wr := ⟨_, rfl⟩
        go_loopw [0, 6, 7] (fun a b c wr => ∃ (x : Int) (i : Nat) (A : Option Addr) (cc : Nat) (ys : List UInt8), a = .int .i64 x ∧ b = .slice A i cc ∧ c = .int .i64 (i : Int) ∧ i ≤ k + 1 ∧ (-9223372036854775808 ≤ x ∧ x ≤ 9223372036854775807) ∧ Hid (WholeR wo n x (k + 1) i A cc ys wr)) (fun _ _ c _ => k + 1 - (intOf c).toNat)
        case atStart => exact ⟨n, 0, none, 0, [], rfl, rfl, rfl, by omega, hn, rfl, rfl, World.ownsRow_nil _ _ _ _, Keeps.refl _ _⟩
        case round =>
          obtain ⟨x, i, A, cc, ys, rfl, rfl, rfl, hi, hx, HI⟩ := hrel
          by_cases hik : i < k + 1
          · obtain ⟨hy, hinv, hown, hkp⟩ := HI.out
            have HY := Lib.hid hy
            have HO := Lib.hid hown
            have HKP := Lib.hid hkp
            have hsz := hkp.size
            have hm := rem256 x
            have hq := quo256 x
            have hx0 : 0 ≤ x % 256 ∧ x % 256 < 256 := by omega
            have HS : Hid (ys.reverse ++ [n8 x] ++ wholeK (k + 1 - (i + 1)) (x / 256) = wholeK (k + 1) n) := by
              show _ = _
              rw [← hinv, show k + 1 - i = (k + 1 - (i + 1)) + 1 by omega]
              simp [wholeK]
            have SB : Hid (∀ o, Src (wr.alloc o) A i (ys.map bv)) := by
              intro o
              have h9 := hown
              rw [← hy] at h9 ⊢
              exact Src.of_bytes ((BytesAt.of_own h9).grow ((Keeps.refl [] wr).alloc o))
            have hn8 : n8 (x % 256) = n8 x := by unfold n8; rw [Int.emod_emod_of_dvd _ (by decide)]
            have HL8 : Hid ((ys.map bv).length = i * 1) := by show _ = _; rw [List.length_map, hy]; omega
            clear hinv hown hkp HI hy
            rcases hm with ⟨hm1, hm2⟩ | ⟨hm1, hm2⟩
            · go_wp2_with (at_builtin; refine wpList_append_opt rfl (.tmp 41) (.tmp 42) 22 rfl wo.heap.size 5 iu _ 1 1 Try.underlying22 hiu hzu0 hzu1 hzu2 rfl (by decide) (.slice (some ⟨wr.heap.size, 0, none⟩) 1 1) 1 ([n8 (x % 256)].map bv) rfl (own_one8 wr wo.heap.size (x % 256) hx0 hsz) A i cc (ys.map bv) rfl HL8.out (SB.out _) bvs_one (by unfold maxLen; omega) (by omega) (by simp; omega) ?_; intro v1 w1 ho1 hg1 hs1; obtain ⟨A1, c1, hv1⟩ := own_slice ho1; subst hv1; have HG1 := Lib.hid (keeps_own8 (own_one8 wr wo.heap.size (x % 256) hx0 hsz) (HKP.out.alloc _) hg1); rw [← List.map_append, hn8] at ho1; have HO1 := Lib.hid ho1; clear ho1 hg1 hs1)
              go_roundw
              case rel => exact ⟨x / 256, i + 1, A1, c1, n8 x :: ys, by go_num, by rw [Nat.add_comm], by go_num, by omega, by omega, by have h9 := HY.out; show ys.length + 1 = i + 1; omega, by have h9 := HS.out; rw [List.reverse_cons]; exact h9, by rw [Nat.add_comm i 1]; exact HO1.out, HG1.out⟩
              case measure => simp [intOf]; omega
            · go_wp2_with (at_builtin; refine wpList_append_opt rfl (.tmp 41) (.tmp 42) 22 rfl wo.heap.size 5 iu _ 1 1 Try.underlying22 hiu hzu0 hzu1 hzu2 rfl (by decide) (.slice (some ⟨wr.heap.size, 0, none⟩) 1 1) 1 ([n8 (x % 256)].map bv) rfl (own_one8 wr wo.heap.size (x % 256) hx0 hsz) A i cc (ys.map bv) rfl HL8.out (SB.out _) bvs_one (by unfold maxLen; omega) (by omega) (by simp; omega) ?_; intro v1 w1 ho1 hg1 hs1; obtain ⟨A1, c1, hv1⟩ := own_slice ho1; subst hv1; have HG1 := Lib.hid (keeps_own8 (own_one8 wr wo.heap.size (x % 256) hx0 hsz) (HKP.out.alloc _) hg1); rw [← List.map_append, hn8] at ho1; have HO1 := Lib.hid ho1; clear ho1 hg1 hs1)
              go_roundw
              case rel => exact ⟨x / 256, i + 1, A1, c1, n8 x :: ys, by go_num, by rw [Nat.add_comm], by go_num, by omega, by omega, by have h9 := HY.out; show ys.length + 1 = i + 1; omega, by have h9 := HS.out; rw [List.reverse_cons]; exact h9, by rw [Nat.add_comm i 1]; exact HO1.out, HG1.out⟩
              case measure => simp [intOf]; omega
          · obtain ⟨hy, hinv, hown, hkp⟩ := HI.out
            obtain rfl : i = k + 1 := by omega
            rw [Nat.sub_self] at hinv
            have he : ys = fewB n := by
              unfold fewB
              rw [HD.out, ← hinv]
              simp [wholeK]
            subst he
            have HO := Lib.hid hown
            have HKP := Lib.hid hkp
            have HY := Lib.hid hy
            clear hinv hown hkp hy HI
            go_wp2_with fail
            go_ret
            rw [HY.out]
            have h9 := HO.out
            rw [← HY.out] at h9
            exact ⟨_, _, rfl, by rw [← HY.out]; exact BytesAt.of_own h9, HKP.out⟩
      · go_wp2_with fail
        obtain ⟨wo, rfl⟩ : ∃ wo : World, wo = wr := ⟨_, rfl⟩
        go_loopw [0, 6, 7] (fun a b c wr => ∃ (x : Int) (i : Nat) (A : Option Addr) (cc : Nat) (ys : List UInt8), a = .int .i64 x ∧ b = .slice A i cc ∧ c = .int .i64 (i : Int) ∧ i ≤ k + 1 ∧ (-9223372036854775808 ≤ x ∧ x ≤ 9223372036854775807) ∧ Hid (WholeR wo n x (k + 1) i A cc ys wr)) (fun _ _ c _ => k + 1 - (intOf c).toNat)
        case atStart => exact ⟨n, 0, none, 0, [], rfl, rfl, rfl, by omega, hn, rfl, rfl, World.ownsRow_nil _ _ _ _, Keeps.refl _ _⟩
        case round =>
          obtain ⟨x, i, A, cc, ys, rfl, rfl, rfl, hi, hx, HI⟩ := hrel
          by_cases hik : i < k + 1
          · obtain ⟨hy, hinv, hown, hkp⟩ := HI.out
            have HY := Lib.hid hy
            have HO := Lib.hid hown
            have HKP := Lib.hid hkp
            have hsz := hkp.size
            have hm := rem256 x
            have hq := quo256 x
            have hx0 : 0 ≤ x % 256 ∧ x % 256 < 256 := by omega
            have HS : Hid (ys.reverse ++ [n8 x] ++ wholeK (k + 1 - (i + 1)) (x / 256) = wholeK (k + 1) n) := by
              show _ = _
              rw [← hinv, show k + 1 - i = (k + 1 - (i + 1)) + 1 by omega]
              simp [wholeK]
            have SB : Hid (∀ o, Src (wr.alloc o) A i (ys.map bv)) := by
              intro o
              have h9 := hown
              rw [← hy] at h9 ⊢
              exact Src.of_bytes ((BytesAt.of_own h9).grow ((Keeps.refl [] wr).alloc o))
            have hn8 : n8 (x % 256) = n8 x := by unfold n8; rw [Int.emod_emod_of_dvd _ (by decide)]
            have HL8 : Hid ((ys.map bv).length = i * 1) := by show _ = _; rw [List.length_map, hy]; omega
            clear hinv hown hkp HI hy
            rcases hm with ⟨hm1, hm2⟩ | ⟨hm1, hm2⟩
            · go_wp2_with (at_builtin; refine wpList_append_opt rfl (.tmp 41) (.tmp 42) 22 rfl wo.heap.size 5 iu _ 1 1 Try.underlying22 hiu hzu0 hzu1 hzu2 rfl (by decide) (.slice (some ⟨wr.heap.size, 0, none⟩) 1 1) 1 ([n8 (x % 256)].map bv) rfl (own_one8 wr wo.heap.size (x % 256) hx0 hsz) A i cc (ys.map bv) rfl HL8.out (SB.out _) bvs_one (by unfold maxLen; omega) (by omega) (by simp; omega) ?_; intro v1 w1 ho1 hg1 hs1; obtain ⟨A1, c1, hv1⟩ := own_slice ho1; subst hv1; have HG1 := Lib.hid (keeps_own8 (own_one8 wr wo.heap.size (x % 256) hx0 hsz) (HKP.out.alloc _) hg1); rw [← List.map_append, hn8] at ho1; have HO1 := Lib.hid ho1; clear ho1 hg1 hs1)
              go_roundw
              case rel => exact ⟨x / 256, i + 1, A1, c1, n8 x :: ys, by go_num, by rw [Nat.add_comm], by go_num, by omega, by omega, by have h9 := HY.out; show ys.length + 1 = i + 1; omega, by have h9 := HS.out; rw [List.reverse_cons]; exact h9, by rw [Nat.add_comm i 1]; exact HO1.out, HG1.out⟩
              case measure => simp [intOf]; omega
            · go_wp2_with (at_builtin; refine wpList_append_opt rfl (.tmp 41) (.tmp 42) 22 rfl wo.heap.size 5 iu _ 1 1 Try.underlying22 hiu hzu0 hzu1 hzu2 rfl (by decide) (.slice (some ⟨wr.heap.size, 0, none⟩) 1 1) 1 ([n8 (x % 256)].map bv) rfl (own_one8 wr wo.heap.size (x % 256) hx0 hsz) A i cc (ys.map bv) rfl HL8.out (SB.out _) bvs_one (by unfold maxLen; omega) (by omega) (by simp; omega) ?_; intro v1 w1 ho1 hg1 hs1; obtain ⟨A1, c1, hv1⟩ := own_slice ho1; subst hv1; have HG1 := Lib.hid (keeps_own8 (own_one8 wr wo.heap.size (x % 256) hx0 hsz) (HKP.out.alloc _) hg1); rw [← List.map_append, hn8] at ho1; have HO1 := Lib.hid ho1; clear ho1 hg1 hs1)
              go_roundw
              case rel => exact ⟨x / 256, i + 1, A1, c1, n8 x :: ys, by go_num, by rw [Nat.add_comm], by go_num, by omega, by omega, by have h9 := HY.out; show ys.length + 1 = i + 1; omega, by have h9 := HS.out; rw [List.reverse_cons]; exact h9, by rw [Nat.add_comm i 1]; exact HO1.out, HG1.out⟩
              case measure => simp [intOf]; omega
          · obtain ⟨hy, hinv, hown, hkp⟩ := HI.out
            obtain rfl : i = k + 1 := by omega
            rw [Nat.sub_self] at hinv
            have he : ys = fewB n := by
              unfold fewB
              rw [HD.out, ← hinv]
              simp [wholeK]
            subst he
            have HO := Lib.hid hown
            have HKP := Lib.hid hkp
            have HY := Lib.hid hy
            clear hinv hown hkp hy HI
            go_wp2_with fail
            go_ret
            rw [HY.out]
            have h9 := HO.out
            rw [← HY.out] at h9
            exact ⟨_, _, rfl, by rw [← HY.out]; exact BytesAt.of_own h9, HKP.out⟩
    · have hk6 : k < 7 := by
        rcases Nat.lt_or_ge k 7 with h | h
        · exact h
        · obtain rfl : k = 7 := by omega
          exact absurd (HI.out.end7 hn) hin
      have hl := HI.out.low (by omega)
      have HN := Lib.hid (HI.out.next hin)
      clear HI
      by_cases hlo : n < lo
      · go_wp2_with fail
        go_roundw
        case rel => exact ⟨k + 1, 256 * lo, 256 * mo + 255, by go_num, by go_num, by go_num, by omega, HN, trivial⟩
        case measure => simp [intOf]; omega
      · have hmo : mo < n := by omega
        go_wp2_with fail
        go_roundw
        case rel => exact ⟨k + 1, 256 * lo, 256 * mo + 255, by go_num, by go_num, by go_num, by omega, HN, trivial⟩
        case measure => simp [intOf]; omega

end Go.Proofs.Ytnengckecooohaa
/- ber: a length's bytes by the reference's count; ref.many. -/
namespace Go.Proofs.Ytnengckecooohaa
open Go.RowKit Go.Shelf
set_option linter.unusedVariables false
set_option linter.unusedSimpArgs false
set_option maxRecDepth 100000

/-- A count's bytes, the lowest ahead, none for nothing. -/
def natL (n : Nat) : List UInt8 := if n = 0 then [] else n8 (n : Int) :: natL (n / 256)
termination_by n
decreasing_by omega
theorem natL_zero : natL 0 = [] := by rw [natL]; rfl
theorem natL_pos {n : Nat} (h : 0 < n) : natL n = n8 (n : Int) :: natL (n / 256) := by
  rw [natL, if_neg (by omega)]
theorem natL_len : ∀ (k n : Nat), n < 256 ^ k → (natL n).length ≤ k
  | 0, n, h => by
    obtain rfl : n = 0 := by simpa using h
    rw [natL_zero]; simp
  | k + 1, n, h => by
    rcases Nat.eq_zero_or_pos n with rfl | hp
    · rw [natL_zero]; simp
    · rw [natL_pos hp, List.length_cons]
      have := natL_len k (n / 256) (Nat.div_lt_of_lt_mul (by rw [Nat.pow_succ] at h; omega))
      omega
theorem natL_len8 {n : Nat} (h : n ≤ 9223372036854775807) : (natL n).length ≤ 8 := natL_len 8 n (by simp; omega)
theorem n8_nz {n : Nat} (h : 0 < n) (h2 : n < 256) : n8 (n : Int) ≠ 0 := by
  intro e
  have h3 := n8_val (n : Int)
  rw [e] at h3
  simp at h3
  omega
theorem natL_last : ∀ (k n : Nat), 0 < n → n < 256 ^ k → ∃ l x, natL n = l ++ [x] ∧ x ≠ 0
  | 0, n, h, h2 => by simp at h2; omega
  | k + 1, n, h, h2 => by
    rw [natL_pos h]
    by_cases hs : n < 256
    · rw [show n / 256 = 0 by omega, natL_zero]
      exact ⟨[], _, rfl, n8_nz h hs⟩
    · obtain ⟨l, x, he, hx⟩ := natL_last k (n / 256) (by omega) (Nat.div_lt_of_lt_mul (by rw [Nat.pow_succ] at h2; omega))
      rw [he]
      exact ⟨n8 (n : Int) :: l, x, rfl, hx⟩
theorem fewL_nat : ∀ (d n : Nat), 0 < n → n < 128 * 256 ^ d → fewL d (n : Int) = natL n ∨ fewL d (n : Int) = natL n ++ [0]
  | 0, n, h, h2 => by
    left
    simp at h2
    rw [fewL_in 0 (by omega), natL_pos h, show n / 256 = 0 by omega, natL_zero]
  | d + 1, n, h, h2 => by
    by_cases hs : n < 128
    · left
      rw [fewL_in _ (by omega), natL_pos h, show n / 256 = 0 by omega, natL_zero]
    · rw [fewL_out d (by omega), natL_pos h, show (n : Int) / 256 = ((n / 256 : Nat) : Int) by omega]
      rcases Nat.eq_zero_or_pos (n / 256) with hz | hp
      · right
        rw [hz, natL_zero, fewL_in d (by decide)]
        rfl
      · rcases fewL_nat d (n / 256) hp (Nat.div_lt_of_lt_mul (by rw [Nat.pow_succ] at h2; omega)) with he | he
        · left; rw [he]
        · right; rw [he]; rfl
/-- A length of 128 and more: how many bytes its count has, and these. -/
theorem lenB_big {n : Nat} (h : 128 ≤ n) (h2 : n ≤ 9223372036854775807) : lenB n = n8 ((128 + (natL n).length : Nat) : Int) :: (natL n).reverse := by
  obtain ⟨l, x, hl, hx⟩ := natL_last 8 n (by omega) (by simp; omega)
  have hs : (if (fewB (n : Int)).take 1 == [0] then (fewB (n : Int)).drop 1 else fewB (n : Int)) = (natL n).reverse := by
    unfold fewB
    rcases fewL_nat 7 n (by omega) (by simp; omega) with he | he
    · rw [he, hl, List.reverse_append]
      simp [hx]
    · rw [he, List.reverse_append]
      simp
  unfold lenB
  rw [if_neg (by omega), hs, List.length_reverse]
theorem lenB_small {n : Nat} (h : n < 128) : lenB n = [n8 (n : Int)] := by
  unfold lenB
  rw [if_pos h]
theorem lenB_many {n : Nat} (h2 : n ≤ 9223372036854775807) : (lenB n).length = if n < 128 then 1 else 1 + (natL n).length := by
  by_cases h : n < 128
  · rw [lenB_small h, if_pos h]; rfl
  · rw [lenB_big (by omega) h2, if_neg h, List.length_cons, List.length_reverse]; omega

theorem many_is (n : Nat) (w : World) (hn : n ≤ 9223372036854775807) : Calls Try.prog 42 #[.int .i64 (n : Int)] w fun e w' => e = .returned (.int .i64 ((lenB n).length : Int)) ∧ w = w' := by
  have HL := Lib.hid (lenB_many hn)
  by_cases h : n < 128
  · rw [if_pos h] at HL
    rw [HL.out]
    go_enter Try.func42, Try.ntmps42
    go_wp2_with fail
    go_ret
    exact ⟨rfl, rfl⟩
  · rw [if_neg h] at HL
    rw [HL.out]
    have h8 := natL_len8 hn
    generalize htot : (natL n).length = tot at *
    go_enter Try.func42, Try.ntmps42
    go_wp2_with fail
    go_loopw [0, 3] (fun a b wr => ∃ m j : Nat, a = .int .i64 (m : Int) ∧ b = .int .i64 (j : Int) ∧ m ≤ n ∧ j ≤ 9 ∧ Hid (j + (natL m).length = 1 + tot) ∧ wr = w) (fun a _ _ => (intOf a).toNat)
    case atStart => exact ⟨n, 1, rfl, rfl, Nat.le_refl _, by omega, by show 1 + _ = _; rw [htot], rfl⟩
    case round =>
      obtain ⟨m, j, rfl, rfl, hm, hj, HJ, rfl⟩ := hrel
      by_cases hp : 0 < m
      · have hj2 : j + 1 + (natL (m / 256)).length = 1 + tot := by
          have h9 := HJ.out
          rw [natL_pos hp, List.length_cons] at h9
          omega
        have HJ2 := Lib.hid hj2
        have hj3 : j + 1 ≤ 9 := by omega
        clear hj2 HJ
        go_wp2_with fail
        go_roundw
        case rel => exact ⟨m / 256, j + 1, by go_num, by go_num, by omega, hj3, HJ2, trivial⟩
        case measure => simp [intOf]; omega
      · obtain rfl : m = 0 := by omega
        have hjt : j = 1 + tot := by
          have h9 := HJ.out
          rw [natL_zero] at h9
          simpa using h9
        subst hjt
        go_wp2_with fail
        go_ret
        exact ⟨rfl, rfl⟩

end Go.Proofs.Ytnengckecooohaa
