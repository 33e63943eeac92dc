/- Texts of one proof, laid together: E40 E41 E42. -/
import Derived.Test.YtnengckecooohaaM15
/- ber: values read off bytes, as a function. -/
namespace Go.Proofs.Ytnengckecooohaa
open Go.RowKit Go.Shelf
set_option linter.unusedVariables false
set_option linter.unusedSimpArgs false
set_option maxRecDepth 100000

/-- Values read one behind the other. -/
def itemsW (nx : List UInt8 → Int ⊕ (BV × List UInt8)) : Nat → List UInt8 → List BV → Int ⊕ List BV
  | 0, _, acc => .inr acc
  | _ + 1, [], acc => .inr acc
  | k + 1, x :: xs, acc => match nx (x :: xs) with
    | .inl e => .inl e
    | .inr (t, r) => itemsW nx k r (acc ++ [t])
/-- The first value of bytes, and what is behind it; f: how many may be in one another yet. -/
def nextD : Nat → List UInt8 → Int ⊕ (BV × List UInt8)
  | 0, xs => match xs with
    | [] => .inl 151
    | x :: _ => if x.toNat % 32 = 31 then .inl 151 else .inl 150
  | f + 1, xs => match xs with
    | [] => .inl 151
    | x :: r => if x.toNat % 32 = 31 then .inl 151 else match lenR r with
      | none => .inl 151
      | some (n, rest) => if rest.length < n then .inl 151 else
        if x.toNat / 32 % 2 = 1 then match itemsW (nextD f) n (rest.take n) [] with
          | .inl e => .inl e
          | .inr l => .inr (.mk (x.toNat / 64) (x.toNat % 32) true [] l, rest.drop n)
        else .inr (.mk (x.toNat / 64) (x.toNat % 32) false (rest.take n) [], rest.drop n)

theorem lenR_len {xs rest : List UInt8} {n : Nat} (h : lenR xs = some (n, rest)) : rest.length < xs.length := by
  unfold lenR at h
  split at h
  · cases h
  · rename_i x r
    split at h
    · injection h with h; injection h with h1 h2; subst h2; simp
    · split at h
      · cases h
      · split at h
        · cases h
        · injection h with h; injection h with h1 h2; subst h2; simp; omega
theorem nextD_len {f : Nat} {xs rest : List UInt8} {t : BV} (h : nextD f xs = .inr (t, rest)) : rest.length < xs.length := by
  cases f with
  | zero =>
    unfold nextD at h
    split at h
    · cases h
    · split at h <;> cases h
  | succ f =>
    unfold nextD at h
    split at h
    · cases h
    · rename_i x r
      split at h
      · cases h
      · split at h
        · cases h
        · rename_i n rest' hl
          have := lenR_len hl
          split at h
          · cases h
          · split at h
            · split at h
              · cases h
              · injection h with h; injection h with h1 h2; subst h2; simp; omega
            · injection h with h; injection h with h1 h2; subst h2; simp; omega

/-- The value of bytes, or why there is none. -/
def valD (xs : List UInt8) : Int ⊕ BV := match nextD 16 xs with
  | .inl e => .inl e
  | .inr (t, rest) => if rest.length = 0 then .inr t else .inl 151
def decD (xs : List UInt8) : Int ⊕ BV := if 65536 < xs.length then .inl 3 else valD xs

end Go.Proofs.Ytnengckecooohaa
/- ber: a reader, and where what it has lies. -/
namespace Go.Proofs.Ytnengckecooohaa
open Go.RowKit Go.Shelf
set_option linter.unusedVariables false
set_option linter.unusedSimpArgs false
set_option maxRecDepth 100000

/-- Of what was there a reader's own cell alone may have turned. -/
structure KR (r : Nat) (w w' : World) : Prop where
  keeps : Keeps [r] w w'
  off : ∀ q, q ≠ 0 → w'.cell? ⟨r, q, none⟩ = w.cell? ⟨r, q, none⟩
theorem KR.refl (r : Nat) (w : World) : KR r w w := ⟨Keeps.refl _ _, fun _ _ => rfl⟩
theorem KR.trans' {r : Nat} {a b c : World} (h : KR r a b) (k : KR r b c) : KR r a c := ⟨h.keeps.trans' k.keeps, fun q hq => (k.off q hq).trans (h.off q hq)⟩
theorem KR.of {r : Nat} {a b : World} (h : Keeps [] a b) (hr : r < a.heap.size) : KR r a b := ⟨h.mono (by simp), fun q _ => h.cell (p := ⟨r, q, none⟩) hr (by simp)⟩
theorem KR.set (r : Nat) (w : World) (v : Value) : KR r w (w.setCell ⟨r, 0, none⟩ v) := ⟨(Keeps.refl _ _).setCell (.inl (by simp)) _, fun q hq => World.cell?_setCell_other _ _ _ _ (by intro e; injection e with _ e _; exact hq e.symm)⟩

/-- How a tag ends, and where the rest lies. -/
def TagQ2 (r : Nat) (A : Option Addr) (x : UInt8) (xs : List UInt8) (w : World) (e : Ending) (w' : World) : Prop :=
  (x.toNat % 32 = 31 ∧ e = gaveUp 151 ∨ x.toNat % 32 ≠ 31 ∧ e = .returned (.agg #[.int .u8 ((x.toNat / 64 : Nat) : Int), .int .u8 ((x.toNat % 32 : Nat) : Int), .bool (decide (x.toNat / 32 % 2 = 1)), .slice none 0 0, .slice none 0 0])) ∧ KR r w w' ∧ ∃ C f, RestAt w' r xs C xs.length f ∧ (∀ a, C = some a → ∃ a2, A = some a2 ∧ a.block = a2.block)

theorem tag_is2 (r : Nat) (A : Option Addr) (m c : Nat) (x : UInt8) (xs : List UInt8) (w : World) (h : RestAt w r (x :: xs) A m c) : Calls Try.prog 59 #[.pointer (some ⟨r, 0, none⟩)] w (TagQ2 r A x xs w) := by
  have hm : m = xs.length + 1 := by have := h.len; simp at this; omega
  subst hm
  obtain ⟨W0, hW0⟩ : ∃ W0, w.alloc (.cells #[.int .u8 0, .int .u8 0, .bool false, .slice none 0 0, .slice none 0 0] 25) = W0 := ⟨_, rfl⟩
  have hk0 : Keeps [] w W0 := by rw [← hW0]; exact (Keeps.refl [] w).alloc _
  have hr0 : W0.heap[w.heap.size]? = some (.cells #[.int .u8 0, .int .u8 0, .bool false, .slice none 0 0, .slice none 0 0] 25 (0, 0)) := by rw [← hW0]; exact heap_new8 w _
  have hrl : r < w.heap.size := lt_of_cell h.cell
  have hf0 : W0.frozen? ⟨r, 0, none⟩ = false := by
    rw [← hW0, frozen_alloc8 _ _ _ hrl]
    exact h.free
  have HT := Lib.hid (take_yes r A (xs.length + 1) c 1 (x :: xs) W0 ((hk0.cell (p := ⟨r, 0, none⟩) hrl (by simp)).trans h.cell) hf0 h.len (h.bytes.grow hk0) (by omega) h.apart)
  have HC0 := Lib.hid ((hk0.cell (p := ⟨r, 0, none⟩) hrl (by simp)).trans h.cell)
  have HF0 := Lib.hid hf0
  have HK0 := Lib.hid hk0
  have HR0 := Lib.hid hr0
  obtain ⟨t1, t2⟩ := tag_bits x
  have hx : x.toNat < 256 := x.toNat_lt
  have HAP := Lib.hid h.apart
  have HAL := Lib.hid (fun b (hb : (Value.slice A (xs.length + 1) c).ownBlock = some b) => h.lt (by simp) b hb)
  clear h hk0 hr0 hf0
  go_enter Try.func59, Try.ntmps59
  go_wp2_with fail
  refine HT.out.mono ?_
  rintro e w1 ⟨C, f, rfl, hw1, hb1, hb2, hCa⟩
  rw [Nat.add_sub_cancel] at hw1 hb2
  simp only [List.take_succ_cons, List.take_zero, List.drop_succ_cons, List.drop_zero] at hb1 hb2
  obtain ⟨b, o, rfl, hcc⟩ := bytes_addr hb1 (by decide)
  have c0 := hcc 0 x rfl
  rw [Nat.add_zero] at c0
  have hk1 : Keeps [r] W0 w1 := by rw [hw1]; exact (Keeps.refl _ _).setCell (.inl (by simp)) _
  have hrest : RestAt w1 r xs C xs.length f := ⟨by rw [hw1]; first | exact World.cell?_setCell_same _ _ _ HC0.out | simp [go_sem, HC0.out], by rw [hw1]; first | (rw [World.frozen?_setCell]; exact HF0.out) | simp [go_sem, HF0.out], rfl, hb2, fun a ha => by obtain ⟨a2, h3, h4⟩ := hCa a ha; rw [h4]; exact HAP.out a2 h3⟩
  have HCL : Hid (0 < xs.length → ∀ b, (Value.slice C xs.length f).ownBlock = some b → b < w.heap.size) := fun _ b9 hb9 => by
    cases C with
    | none => simp [Value.ownBlock] at hb9
    | some a =>
      simp [Value.ownBlock] at hb9
      obtain ⟨a2, h3, h4⟩ := hCa a rfl
      rw [← hb9, h4]
      exact HAL.out _ (by rw [h3]; rfl)
  have HRE := Lib.hid hrest
  have HCA := Lib.hid hCa
  have HK1 := Lib.hid (Keeps.trans' (HK0.out.mono (by simp)) hk1)
  have HKR1 : Hid (KR r w w1) := by rw [hw1]; exact (KR.of HK0.out hrl).trans' (KR.set _ _ _)
  have hrow1 : w1.heap[w.heap.size]? = some (.cells #[.int .u8 0, .int .u8 0, .bool false, .slice none 0 0, .slice none 0 0] 25 (0, 0)) := blk_keep HR0.out hk1 (by simp; omega)
  have HR1 := Lib.hid hrow1
  obtain ⟨⟨g0, g1, g2, g3, g4⟩, ⟨f0, f1, f2, f3, f4⟩⟩ := five_facts hrow1
  clear hcc hb1 hb2 hCa hk1 hrest hrow1 hw1 HT
  by_cases h31 : x.toNat % 32 = 31
  · rw [h31] at t1
    have hpn : ∀ W, (Instr.panic (.iface 28 (.int .i64 151))).run Try.prog W = .halt (.panic (.iface 28 (.int .i64 151))) W := fun _ => rfl
    have H31 := Lib.hid h31
    clear h31
    go_wp2_with fail
    exact ⟨rfl, .inl ⟨H31.out, rfl⟩, HKR1.out, C, f, HRE.out, HCA.out⟩
  · have h31' : ¬ ((x.toNat % 32 : Nat) : Int) = 31 := by omega
    have HN := Lib.hid h31
    clear h31
    go_wp2_with fail
    have hKF := five_keep (v0 := .int .u8 ((x.toNat : Int) / 64)) (v1 := .int .u8 ((x.toNat : Int) % 32)) (v2 := .bool ((x.toNat : Int) / 32 % 2 * 32 != 0)) (v3 := .slice none 0 0) (v4 := .slice none 0 0) HK1.out (g := w.heap.size) (.inr (Nat.le_refl _))
    have hrow := five_set (v0 := .int .u8 ((x.toNat : Int) / 64)) (v1 := .int .u8 ((x.toNat : Int) % 32)) (v2 := .bool ((x.toNat : Int) / 32 % 2 * 32 != 0)) (v3 := .slice none 0 0) (v4 := .slice none 0 0) HR1.out
    have hk5 := five_keep (bs := [w.heap.size]) (v0 := .int .u8 ((x.toNat : Int) / 64)) (v1 := .int .u8 ((x.toNat : Int) % 32)) (v2 := .bool ((x.toNat : Int) / 32 % 2 * 32 != 0)) (v3 := .slice none 0 0) (v4 := .slice none 0 0) (Keeps.refl [w.heap.size] w1) (g := w.heap.size) (.inl (by simp))
    have HKF := Lib.hid hKF
    have HRW := Lib.hid hrow
    have HK5 := Lib.hid hk5
    refine ret_ber rfl rfl rfl HRW.out rfl ⟨.inr ⟨HN.out, ?_⟩, ⟨HKF.out, fun q hq => (HK5.out.cell (p := ⟨r, q, none⟩) (show r < w1.heap.size from lt_of_cell HRE.out.cell) (by simp; omega)).trans (HKR1.out.off q hq)⟩, C, f, HRE.out.keep HK5.out (by simp; omega) (fun hn b hb hm => ?_), HCA.out⟩
    · have e1 : (x.toNat : Int) / 64 = ((x.toNat / 64 : Nat) : Int) := by omega
      have e2 : (x.toNat : Int) % 32 = ((x.toNat % 32 : Nat) : Int) := by omega
      have e3 : ((x.toNat : Int) / 32 % 2 * 32 != 0) = decide (x.toNat / 32 % 2 = 1) := by rw [Bool.eq_iff_iff]; simp; omega
      rw [e1, e2, e3]
    · rw [List.mem_singleton] at hm
      have := HCL.out hn b hb
      omega

theorem take_rest2 (r : Nat) (A : Option Addr) (m c n : Nat) (xs : List UInt8) (w : World) (h : RestAt w r xs A m c) (hn : n ≤ m) :
    Calls Try.prog 61 #[.pointer (some ⟨r, 0, none⟩), .int .i64 (n : Int)] w fun e w' => e = .returned (.slice A n c) ∧ BytesAt w' (.slice A n c) (xs.take n) ∧ KR r w w' ∧ ∃ C f, RestAt w' r (xs.drop n) C (m - n) f ∧ (∀ a, C = some a → ∃ a2, A = some a2 ∧ a.block = a2.block) := by
  refine (take_yes r A m c n xs w h.cell h.free h.len h.bytes hn h.apart).mono ?_
  rintro e w' ⟨C, f, rfl, rfl, hb1, hb2, hCa⟩
  refine ⟨rfl, hb1, KR.set _ _ _, C, f, ⟨?_, ?_, by rw [List.length_drop, h.len], hb2, fun a ha => ?_⟩, hCa⟩
  · have := h.cell
    first | exact World.cell?_setCell_same _ _ _ this | simp [go_sem, this]
  · have := h.free
    first | (rw [World.frozen?_setCell]; exact this) | simp [go_sem, this]
  · obtain ⟨a2, h3, h4⟩ := hCa a ha
    rw [h4]
    exact h.apart a2 h3

def LenQ2 (r : Nat) (A : Option Addr) (xs : List UInt8) (w : World) (e : Ending) (w' : World) : Prop :=
  ((∃ n rest, lenR xs = some (n, rest) ∧ e = .returned (.int .i64 (n : Int)) ∧ ∃ C f, RestAt w' r rest C rest.length f ∧ (∀ a, C = some a → ∃ a2, A = some a2 ∧ a.block = a2.block)) ∨ lenR xs = none ∧ e = gaveUp 151) ∧ KR r w w'

theorem rlen_none2 (r : Nat) (A : Option Addr) (c : Nat) (w : World) (hc : w.cell? ⟨r, 0, none⟩ = some (.slice A 0 c)) : Calls Try.prog 60 #[.pointer (some ⟨r, 0, none⟩)] w (LenQ2 r A [] w) := by
  have HT := Lib.hid (take_no r A 0 c 1 w hc (by decide))
  go_enter Try.func60, Try.ntmps60
  go_wp2_with fail
  refine HT.out.mono ?_
  rintro e w1 ⟨rfl, rfl⟩
  go_wp2_with fail
  exact ⟨rfl, .inr ⟨rfl, rfl⟩, KR.refl _ _⟩

set_option maxHeartbeats 1000000 in
theorem rlen_some2 (r : Nat) (A : Option Addr) (m c : Nat) (x : UInt8) (xs : List UInt8) (w : World) (h : RestAt w r (x :: xs) A m c) : Calls Try.prog 60 #[.pointer (some ⟨r, 0, none⟩)] w (LenQ2 r A (x :: xs) w) := by
  have hm : m = xs.length + 1 := by have := h.len; simp at this; omega
  subst hm
  have HT := Lib.hid (take_rest2 r A (xs.length + 1) c 1 (x :: xs) w h (by omega))
  have hx : x.toNat < 256 := x.toNat_lt
  clear h
  go_enter Try.func60, Try.ntmps60
  go_wp2_with fail
  refine HT.out.mono ?_
  rintro e w1 ⟨rfl, hb1, hk1, C, f, hr1, hCa⟩
  rw [Nat.add_sub_cancel] at hr1
  simp only [List.take_succ_cons, List.take_zero, List.drop_succ_cons, List.drop_zero] at hb1 hr1
  obtain ⟨b, o, rfl, hcc⟩ := bytes_addr hb1 (by decide)
  have c0 := hcc 0 x rfl
  rw [Nat.add_zero] at c0
  have HK1 := Lib.hid hk1
  have HR1 := Lib.hid hr1
  have HCA := Lib.hid hCa
  clear hcc hb1 hk1 hr1 hCa HT
  have hw64 : wrap64 (x.toNat : Int) = (x.toNat : Int) := by unfold wrap64; omega
  by_cases h128 : x.toNat < 128
  · have hi : (x.toNat : Int) < 128 := by omega
    have HE : Hid (lenR (x :: xs) = some (x.toNat, xs)) := by
      show (if x.toNat < 128 then some (x.toNat, xs) else _) = _
      rw [if_pos h128]
    go_wp2_with fail
    go_ret
    exact ⟨.inl ⟨_, _, HE.out, rfl, C, f, HR1.out, HCA.out⟩, HK1.out⟩
  · obtain ⟨q, hq⟩ : ∃ q : Nat, x.toNat = q + 128 := ⟨x.toNat - 128, by omega⟩
    have hi : ¬ ((q + 128 : Nat) : Int) < 128 := by omega
    have HQ := Lib.hid (show lenR (x :: xs) = if xs.length < q then none else if numZ 0 (xs.take q) < 128 ∨ (xs.take q == (lenB (numZ 0 (xs.take q)).toNat).drop 1) = false then none else some ((numZ 0 (xs.take q)).toNat, xs.drop q) by
      show (if x.toNat < 128 then _ else _) = _
      rw [if_neg h128, hq, Nat.add_sub_cancel])
    rw [hq] at c0 hx
    have c0' : w1.cell? ⟨b, o, none⟩ = some (.int .u8 ((q : Int) + 128)) := by rw [c0]; congr 2
    have hq1 : q < 128 := by omega
    have hi2 : ¬ (q : Int) + 128 < 128 := by omega
    have ew : wrap64 ((q : Int) + 128) = (q : Int) + 128 := by unfold wrap64; omega
    have eq2 : wrap64 (q : Int) = (q : Int) := by unfold wrap64; omega
    clear hq h128 hx c0 hw64 hi
    by_cases hlt : xs.length < q
    · have HN : Hid (lenR (x :: xs) = none) := by
        show _ = _
        rw [HQ.out, if_pos hlt]
      have HT2 := Lib.hid (take_no r C xs.length f q w1 HR1.out.cell hlt)
      go_wp2_with fail
      refine HT2.out.mono ?_
      rintro e w2 ⟨rfl, rfl⟩
      go_wp2_with fail
      exact ⟨rfl, .inr ⟨HN.out, rfl⟩, HK1.out⟩
    · have HT2 := Lib.hid (take_rest2 r C xs.length f q xs w1 HR1.out (by omega))
      have hql : (xs.take q).length = q := by rw [List.length_take]; omega
      have hbd := numZ_in (xs.take q) 0 (by decide)
      have HQL := Lib.hid hql
      rw [if_neg hlt] at HQ
      clear hql hlt
      go_wp2_with fail
      refine HT2.out.mono ?_
      rintro e w2 ⟨rfl, hb2, hk2, D, g, hr2, hDa⟩
      have HK2 := Lib.hid (HK1.out.trans' hk2)
      have HB2 := Lib.hid hb2
      have HR2 := Lib.hid hr2
      have HDA : Hid (∀ a, D = some a → ∃ a2, some (⟨b, o, none⟩ : Addr) = some a2 ∧ a.block = a2.block) := fun a ha => by
        obtain ⟨a2, h3, h4⟩ := hDa a ha
        obtain ⟨a3, h5, h6⟩ := HCA.out a2 h3
        exact ⟨a3, h5, h4.trans h6⟩
      have HNI := Lib.hid (numI_is 0 C q f (xs.take q) w2 (by decide) HQL.out (by omega) hb2)
      clear hb2 hk2 hr2 hDa HT2
      generalize hyt : xs.take q = ys at *
      generalize hn0 : numZ 0 ys = n0 at *
      go_wp2_with fail
      refine HNI.out.mono ?_
      rintro e w3 ⟨rfl, rfl⟩
      by_cases hsm : n0 < 128
      · have HN : Hid (lenR (x :: xs) = none) := by
          show _ = _
          rw [HQ.out, if_pos (.inl hsm)]
        go_wp2_with fail
        exact ⟨rfl, .inr ⟨HN.out, rfl⟩, HK2.out⟩
      · obtain ⟨n, rfl⟩ := Int.eq_ofNat_of_zero_le (show 0 ≤ n0 by omega)
        have HLN := Lib.hid (lengthof_is n w2 (by omega))
        obtain ⟨hl1, hl9⟩ := lenB_len n
        rw [Int.toNat_natCast] at HQ
        generalize hlb : lenB n = lb at *
        go_wp2_with fail
        refine HLN.out.mono ?_
        rintro e w3 ⟨L, ld, rfl, hbl, hk3⟩
        have hcap : lb.length ≤ ld ∧ ld ≤ 9223372036854775807 := by obtain ⟨A', c', he, h2, h3⟩ := hbl; injection he with _ h4 h5; unfold maxLen at h3; omega
        obtain ⟨P, pd, hsl, hsb⟩ := slice_from L lb.length ld 1 lb rfl hcap.1 hcap.2 hl1 (fun h => by obtain ⟨b9, o9, h1, _⟩ := bytes_addr hbl h; exact ⟨b9, o9, h1⟩)
        have hsl : ∀ W, (Instr.slice 22 (.slice L lb.length ld) (some (.int .i64 1)) none none).run Try.prog W = .ok (.slice P (lb.length - 1) pd) W := hsl
        have HEQ := Lib.hid (equal_any (.slice C q f) (.slice P (lb.length - 1) pd) ys (lb.drop 1) w3 (HB2.out.grow hk3) (hsb w3 hbl))
        have HR3 := Lib.hid (HR2.out.keep hk3 (by simp) (by simp))
        have HK3 := Lib.hid (HK2.out.trans' (KR.of hk3 (lt_of_cell HR2.out.cell)))
        have HDL : Hid (xs.length - q = (xs.drop q).length) := by show _ = _; rw [List.length_drop]
        generalize hll : lb.length = ll at *
        clear hbl hk3 hsb hcap hl9
        go_wp2_with fail
        refine HEQ.out.mono ?_
        rintro e w4 ⟨rfl, rfl⟩
        cases hbq : (ys == lb.drop 1)
        · have HN : Hid (lenR (x :: xs) = none) := by
            show _ = _
            rw [HQ.out, if_pos (.inr hbq)]
          go_wp2_with fail
          exact ⟨rfl, .inr ⟨HN.out, rfl⟩, HK3.out⟩
        · have HN : Hid (lenR (x :: xs) = some (n, xs.drop q)) := by
            show _ = _
            rw [HQ.out, if_neg (by rintro (h | h); (omega); (rw [hbq] at h; cases h))]
          go_wp2_with fail
          go_ret
          exact ⟨.inl ⟨n, _, HN.out, rfl, D, g, by rw [← HDL.out]; exact HR3.out, HDA.out⟩, HK3.out⟩

/-- What a reader has, which lies below a block. -/
def RB (w : World) (r : Nat) (xs : List UInt8) (Bd : Nat) : Prop := ∃ C c, RestAt w r xs C xs.length c ∧ ∀ a, C = some a → a.block < Bd
theorem RB.keep {w w' : World} {r Bd : Nat} {xs : List UInt8} {bs : List Nat} (h : RB w r xs Bd) (hk : Keeps bs w w') (hr : r ∉ bs) (hb : ∀ x ∈ bs, Bd ≤ x ∨ w.heap.size ≤ x) : RB w' r xs Bd := by
  obtain ⟨C, c, h1, h2⟩ := h
  refine ⟨C, c, h1.keep hk hr (fun hn b hb' hm => ?_), h2⟩
  have hlt := h1.lt hn b hb'
  cases C with
  | none => simp [Value.ownBlock] at hb'
  | some a =>
    have := h2 a rfl
    simp [Value.ownBlock] at hb'
    rcases hb b hm with h | h <;> omega
theorem rb_mv {A : Option Addr} {C : Option Addr} {Bd : Nat} (h2 : ∀ a, A = some a → a.block < Bd) (hC : ∀ a, C = some a → ∃ a2, A = some a2 ∧ a.block = a2.block) : ∀ a, C = some a → a.block < Bd := fun a ha => by
  obtain ⟨a2, h3, h4⟩ := hC a ha
  rw [h4]
  exact h2 a2 h3

theorem rb_tag_none (r Bd : Nat) (w : World) (h : RB w r [] Bd) : Calls Try.prog 59 #[.pointer (some ⟨r, 0, none⟩)] w fun e w' => e = gaveUp 151 ∧ Keeps [] w w' := by
  obtain ⟨C, c, h1, h2⟩ := h
  exact tag_none r C c w h1.cell
/-- How a tag ends. -/
def TagR (r Bd : Nat) (x : UInt8) (xs : List UInt8) (w : World) (e : Ending) (w' : World) : Prop :=
  (x.toNat % 32 = 31 ∧ e = gaveUp 151 ∨ x.toNat % 32 ≠ 31 ∧ e = .returned (.agg #[.int .u8 ((x.toNat / 64 : Nat) : Int), .int .u8 ((x.toNat % 32 : Nat) : Int), .bool (decide (x.toNat / 32 % 2 = 1)), .slice none 0 0, .slice none 0 0])) ∧ KR r w w' ∧ RB w' r xs Bd
theorem rb_tag (r Bd : Nat) (x : UInt8) (xs : List UInt8) (w : World) (h : RB w r (x :: xs) Bd) : Calls Try.prog 59 #[.pointer (some ⟨r, 0, none⟩)] w (TagR r Bd x xs w) := by
  obtain ⟨C, c, h1, h2⟩ := h
  refine (tag_is2 r C _ c x xs w h1).mono ?_
  rintro e w' ⟨h3, h4, D, f, h5, h6⟩
  exact ⟨h3, h4, D, f, h5, rb_mv h2 h6⟩
/-- How a length ends. -/
def LenR (r Bd : Nat) (xs : List UInt8) (w : World) (e : Ending) (w' : World) : Prop :=
  ((∃ n rest, lenR xs = some (n, rest) ∧ e = .returned (.int .i64 (n : Int)) ∧ RB w' r rest Bd) ∨ lenR xs = none ∧ e = gaveUp 151) ∧ KR r w w'
theorem rb_len (r Bd : Nat) (xs : List UInt8) (w : World) (h : RB w r xs Bd) : Calls Try.prog 60 #[.pointer (some ⟨r, 0, none⟩)] w (LenR r Bd xs w) := by
  obtain ⟨C, c, h1, h2⟩ := h
  have hh : Calls Try.prog 60 #[.pointer (some ⟨r, 0, none⟩)] w (LenQ2 r C xs w) := by
    cases xs with
    | nil => exact rlen_none2 r C c w h1.cell
    | cons x xs => exact rlen_some2 r C _ c x xs w h1
  refine hh.mono ?_
  rintro e w' ⟨⟨n, rest, h3, h4, D, f, h5, h6⟩ | h3, hk⟩
  · exact ⟨.inl ⟨n, rest, h3, h4, D, f, h5, rb_mv h2 h6⟩, hk⟩
  · exact ⟨.inr h3, hk⟩
/-- How a take ends. -/
def TakeR (r Bd n : Nat) (xs : List UInt8) (w : World) (e : Ending) (w' : World) : Prop :=
  (∃ A c, n ≤ xs.length ∧ e = .returned (.slice A n c) ∧ BytesAt w' (.slice A n c) (xs.take n) ∧ (∀ a, A = some a → a.block < Bd ∧ a.block ≠ r) ∧ RB w' r (xs.drop n) Bd ∧ KR r w w' ∧ w'.heap.size = w.heap.size) ∨ xs.length < n ∧ e = gaveUp 151 ∧ w = w'
theorem rb_take (r Bd n : Nat) (xs : List UInt8) (w : World) (h : RB w r xs Bd) : Calls Try.prog 61 #[.pointer (some ⟨r, 0, none⟩), .int .i64 (n : Int)] w (TakeR r Bd n xs w) := by
  obtain ⟨C, c, h1, h2⟩ := h
  by_cases hn : xs.length < n
  · refine (take_no r C xs.length c n w h1.cell hn).mono ?_
    rintro e w' ⟨rfl, rfl⟩
    exact .inr ⟨hn, rfl, rfl⟩
  · refine (take_yes r C xs.length c n xs w h1.cell h1.free rfl h1.bytes (by omega) h1.apart).mono ?_
    rintro e w' ⟨D, f, rfl, rfl, hb1, hb2, hCa⟩
    refine .inl ⟨C, c, by omega, rfl, hb1, fun a ha => ⟨h2 a ha, h1.apart a ha⟩, ⟨D, f, ⟨?_, ?_, rfl, ?_, fun a ha => ?_⟩, rb_mv h2 hCa⟩, KR.set _ _ _, by simp [World.setCell]⟩
    · rw [List.length_drop]
      have := h1.cell
      first | exact World.cell?_setCell_same _ _ _ this | simp [go_sem, this]
    · have := h1.free
      first | (rw [World.frozen?_setCell]; exact this) | simp [go_sem, this]
    · rw [List.length_drop]; exact hb2
    · obtain ⟨a2, h3, h4⟩ := hCa a ha
      rw [h4]
      exact h1.apart a2 h3

end Go.Proofs.Ytnengckecooohaa
/- ber: the next value of a reader. -/
namespace Go.Proofs.Ytnengckecooohaa
open Go.RowKit Go.Shelf
set_option linter.unusedVariables false
set_option linter.unusedSimpArgs false
set_option maxRecDepth 100000

/-- How next ends. -/
def NextQ (f : Nat) (xs : List UInt8) (Bd r : Nat) (w : World) (e : Ending) (w' : World) : Prop :=
  ((∃ t rest h, nextD f xs = .inr (t, rest) ∧ e = .returned (BH.val h) ∧ (∀ (E : List Nat) X, (∀ x ∈ E, x < w.heap.size) → Keeps E w' X → BerAt X t h) ∧ RB w' r rest Bd) ∨ ∃ no, nextD f xs = .inl no ∧ e = gaveUp no) ∧ KR r w w'
theorem KR.more {r : Nat} {a b c : World} {bs : List Nat} (h : KR r a b) (hk : Keeps bs b c) (hb : ∀ x ∈ bs, a.heap.size ≤ x) (hr : r < a.heap.size) : KR r a c :=
  ⟨h.keeps.trans hk (fun x hx => .inr (hb x hx)), fun q hq => (hk.cell (p := ⟨r, q, none⟩) (Nat.lt_of_lt_of_le hr h.keeps.size) (fun hm => by have h9 : a.heap.size ≤ r := hb r hm; omega)).trans (h.off q hq)⟩
/-- What next is called with. -/
structure NextP (f : Nat) (xs : List UInt8) (Bd r p : Nat) (w : World) : Prop where
  len : xs.length ≤ 65536
  rb : RB w r xs Bd
  bd : Bd ≤ w.heap.size
  dep : w.cell? ⟨r, 1, none⟩ = some (.int .i64 ((17 - f : Nat) : Int))
  fn : w.cell? ⟨p, 0, none⟩ = some (.func (.func 58) #[] #[.pointer (some ⟨p, 0, none⟩)])
  ne : p ≠ r
theorem RB.lt {w : World} {r Bd : Nat} {xs : List UInt8} (h : RB w r xs Bd) : r < w.heap.size := by
  obtain ⟨C, c, h1, h2⟩ := h
  exact lt_of_cell h1.cell
theorem nextD_nil (f : Nat) : nextD f [] = .inl 151 := by cases f <;> rfl
theorem nextD_31 (f : Nat) (x : UInt8) (xs : List UInt8) (h : x.toNat % 32 = 31) : nextD f (x :: xs) = .inl 151 := by cases f <;> simp [nextD, h]

/-- How a take ends where there is enough. -/
def TakeY (r Bd n : Nat) (xs : List UInt8) (w : World) (e : Ending) (w' : World) : Prop :=
  ∃ A c, e = .returned (.slice A n c) ∧ BytesAt w' (.slice A n c) (xs.take n) ∧ (∀ a, A = some a → a.block < Bd ∧ a.block ≠ r) ∧ RB w' r (xs.drop n) Bd ∧ KR r w w' ∧ w'.heap.size = w.heap.size
theorem rb_take_yes (r Bd n : Nat) (xs : List UInt8) (w : World) (h : RB w r xs Bd) (hn : ¬ xs.length < n) : Calls Try.prog 61 #[.pointer (some ⟨r, 0, none⟩), .int .i64 (n : Int)] w (TakeY r Bd n xs w) := by
  refine (rb_take r Bd n xs w h).mono ?_
  rintro e w' (⟨A, c, h1, h2, h3, h4, h5, h6, h7⟩ | ⟨h1, _⟩)
  · exact ⟨A, c, h2, h3, h4, h5, h6, h7⟩
  · exact absurd h1 hn
theorem rb_take_no (r Bd n : Nat) (xs : List UInt8) (w : World) (h : RB w r xs Bd) (hn : xs.length < n) : Calls Try.prog 61 #[.pointer (some ⟨r, 0, none⟩), .int .i64 (n : Int)] w fun e w' => e = gaveUp 151 ∧ w = w' := by
  refine (rb_take r Bd n xs w h).mono ?_
  rintro e w' (⟨A, c, h1, _⟩ | ⟨_, h2, h3⟩)
  · omega
  · exact ⟨h2, h3⟩

/-- What the rounds over what is inside find. -/
structure LoopS (f n : Nat) (inp : List UInt8) (cc nn Bd i g4 : Nat) (d : Int) (w4 wr : World) (acc : List BV) (ys : List UInt8) (kf : Nat) (VA : Option Addr) (vc : Nat) (hs : List BH) : Prop where
  eq : itemsW (nextD f) n inp [] = itemsW (nextD f) kf ys acc
  le : ys.length ≤ kf
  cnt : acc.length + ys.length ≤ n
  rb : RB wr i ys Bd
  dep : wr.cell? ⟨i, 1, none⟩ = some (.int .i64 d)
  blk : wr.heap[g4]? = some (.cells #[.int .u8 (cc : Int), .int .u8 (nn : Int), .bool true, .slice none 0 0, .slice VA acc.length vc] 25 (0, 0))
  row : wr.ownsRow w4.heap.size 25 5 (.slice VA acc.length vc) acc.length (headsL hs)
  hsl : hs.length = acc.length
  items : ∀ (E : List Nat) X, (∀ x ∈ E, x < w4.heap.size ∨ (Value.slice VA acc.length vc).ownBlock = some x) → Keeps E wr X → ∀ (j : Nat) (t : BV) (h : BH), acc[j]? = some t → hs[j]? = some h → BerAt X t h
  keeps : Keeps [i, g4] w4 wr
/-- The same, of so many bytes that are left. -/
def LoopR (f n : Nat) (inp : List UInt8) (cc nn Bd i g4 : Nat) (d : Int) (w4 wr : World) (m : Nat) : Prop := ∃ acc ys kf VA vc hs, ys.length = m ∧ LoopS f n inp cc nn Bd i g4 d w4 wr acc ys kf VA vc hs

theorem LoopS.step {f n : Nat} {inp : List UInt8} {cc nn Bd i g4 : Nat} {d : Int} {w4 wr : World} {acc : List BV} {ys : List UInt8} {kf : Nat} {VA : Option Addr} {vc : Nat} {hs : List BH} (H : LoopS f n inp cc nn Bd i g4 d w4 wr acc ys kf VA vc hs)
    (hi : i < w4.heap.size) (hg4 : g4 < w4.heap.size) (hne : i ≠ g4) (hBd : Bd ≤ g4) (hBw : Bd ≤ w4.heap.size) {t : BV} {r' : List UInt8} {h : BH} (hy : ys ≠ []) (hnx : nextD f ys = .inr (t, r')) {w6 w7 w8 : World} {A8 : Option Addr} {c8 : Nat}
    (k6 : KR i wr w6) (hp : ∀ (E : List Nat) X, (∀ x ∈ E, x < wr.heap.size) → Keeps E w6 X → BerAt X t h) (hrb : RB w6 i r' Bd) (k7 : Keeps [] w6 w7)
    (ho : w8.ownsRow w4.heap.size 25 5 (.slice A8 (acc.length + 1) c8) (acc.length + 1) (headsL hs ++ h.list)) (hg : w7.grownBy w8 (Value.slice VA acc.length vc).ownBlock) (hs8 : (Value.slice A8 (acc.length + 1) c8).ownBlock = (Value.slice VA acc.length vc).ownBlock ∨ (Value.slice A8 (acc.length + 1) c8).ownBlock = some w7.heap.size) :
    LoopS f n inp cc nn Bd i g4 d w4 (w8.setCell ⟨g4, 4, none⟩ (.slice A8 (acc.length + 1) c8)) (acc ++ [t]) r' (kf - 1) A8 c8 (hs ++ [h]) := by
  have hlen := nextD_len hnx
  have hz4 := H.keeps.size
  have hz6 := k6.keeps.size
  have hz7 := k7.size
  have k8 : Keeps (Value.slice VA acc.length vc).ownBlock.toList w7 w8 := Keeps.of_grown hg (fun x hx => .inl (by rw [hx]; simp))
  have hz8 := k8.size
  have hvl : ∀ x ∈ (Value.slice VA acc.length vc).ownBlock.toList, w4.heap.size ≤ x ∧ x < wr.heap.size := fun x hx => H.row.lt x (by simpa using hx)
  have k9 : Keeps [g4] w8 (w8.setCell ⟨g4, 4, none⟩ (.slice A8 (acc.length + 1) c8)) := (Keeps.refl [g4] w8).setCell (.inl (by simp)) _
  have hn1 : (acc ++ [t]).length = acc.length + 1 := by simp
  have kw7 : Keeps [i] wr w7 := k6.keeps.trans k7 (by simp)
  have k69 : Keeps (g4 :: (Value.slice VA acc.length vc).ownBlock.toList) w6 (w8.setCell ⟨g4, 4, none⟩ (.slice A8 (acc.length + 1) c8)) := ((k7.mono (by simp)).trans k8 (fun x hx => .inl (List.mem_cons_of_mem _ hx))).trans k9 (fun x hx => .inl (by rw [List.mem_singleton.1 hx]; exact List.mem_cons_self))
  have kr9 : Keeps (i :: g4 :: (Value.slice VA acc.length vc).ownBlock.toList) wr (w8.setCell ⟨g4, 4, none⟩ (.slice A8 (acc.length + 1) c8)) := (k6.keeps.mono (by simp)).trans k69 (fun x hx => .inl (List.mem_cons_of_mem _ hx))
  have hig : i ∉ (g4 :: (Value.slice VA acc.length vc).ownBlock.toList) := fun hm => by
    rcases List.mem_cons.1 hm with hm | hm
    · exact hne hm
    · have := hvl i hm; omega
  have hg8 : g4 ∉ (Value.slice VA acc.length vc).ownBlock.toList := fun hm => by have := hvl g4 hm; omega
  have hb8 : w8.heap[g4]? = some (.cells #[.int .u8 (cc : Int), .int .u8 (nn : Int), .bool true, .slice none 0 0, .slice VA acc.length vc] 25 (0, 0)) := blk_keep (blk_keep H.blk kw7 (by simp; exact fun e => hne e.symm)) k8 hg8
  refine ⟨?_, by have := H.le; omega, by rw [hn1]; have := H.cnt; omega, hrb.keep k69 hig (fun x hx => ?_), ?_, ?_, ?_, by simp [H.hsl], fun E X hE hk j t' h' ht' hh' => ?_, H.keeps.trans kr9 (fun x hx => ?_)⟩
  · rw [H.eq]
    obtain ⟨k, rfl⟩ : ∃ k, kf = k + 1 := ⟨kf - 1, by have := H.le; omega⟩
    cases ys with
    | nil => exact absurd rfl hy
    | cons y ys => simp [itemsW, hnx]
  · rcases List.mem_cons.1 hx with hx | hx
    · exact .inl (by omega)
    · exact .inl (by have := (hvl x hx).1; omega)
  · exact (k69.cell (p := ⟨i, 1, none⟩) (show i < w6.heap.size by omega) hig).trans ((k6.off 1 (by decide)).trans H.dep)
  · rw [hn1]
    exact heap_setCell_same w8 g4 4 _ _ _ hb8
  · rw [hn1]
    have h9 : headsL (hs ++ [h]) = headsL hs ++ h.list := by simp [headsL]
    rw [h9]
    refine own_keep ho k9 (fun b hb hm => ?_)
    have h10 := (ho.lt b hb).1
    rw [List.mem_singleton.1 hm] at h10
    omega
  · rw [hn1] at hE
    have hcase : ∀ x ∈ E, x < wr.heap.size ∨ w7.heap.size ≤ x := fun x hx => by
      rcases hE x hx with h9 | h9
      · exact .inl (by omega)
      · rcases hs8 with h10 | h10
        · rw [h10] at h9
          exact .inl (hvl x (by rw [h9]; simp)).2
        · rw [h10] at h9
          injection h9 with h9
          exact .inr (by omega)
    have hold : ∀ x ∈ E, x < wr.heap.size → x < w4.heap.size ∨ (Value.slice VA acc.length vc).ownBlock = some x := fun x hx hlt => by
      rcases hE x hx with h9 | h9
      · exact .inl h9
      · rcases hs8 with h10 | h10
        · rw [h10] at h9; exact .inr h9
        · rw [h10] at h9
          injection h9 with h9
          omega
    by_cases hj : j < acc.length
    · rw [List.getElem?_append_left hj] at ht'
      rw [List.getElem?_append_left (by rw [H.hsl]; exact hj)] at hh'
      have kX : Keeps ((i :: g4 :: (Value.slice VA acc.length vc).ownBlock.toList) ++ E.filter (fun x => decide (x < wr.heap.size))) wr X := by
        have k10 : Keeps ((i :: g4 :: (Value.slice VA acc.length vc).ownBlock.toList) ++ E.filter (fun x => decide (x < wr.heap.size))) wr (w8.setCell ⟨g4, 4, none⟩ (.slice A8 (acc.length + 1) c8)) := kr9.mono (fun x hx => .inl (List.mem_append_left _ hx))
        refine k10.trans hk (fun x hx => ?_)
        rcases hcase x hx with h9 | h9
        · exact .inl (List.mem_append_right _ (List.mem_filter.2 ⟨hx, by simpa using h9⟩))
        · exact .inr (by omega)
      refine H.items _ X (fun x hx => ?_) kX j t' h' ht' hh'
      rcases List.mem_append.1 hx with hx | hx
      · simp only [List.mem_cons] at hx
        rcases hx with hx | hx | hx
        · exact .inl (by omega)
        · exact .inl (by omega)
        · exact .inr (by simpa using hx)
      · obtain ⟨h9, h10⟩ := List.mem_filter.1 hx
        exact hold x h9 (by simpa using h10)
    · have hja : j = acc.length := by
        have := (List.getElem?_eq_some_iff.1 ht').1
        simp at this
        omega
      subst hja
      rw [List.getElem?_append_right (Nat.le_refl _)] at ht'
      rw [List.getElem?_append_right (by rw [H.hsl]; exact Nat.le_refl _), H.hsl] at hh'
      simp at ht' hh'
      subst ht' hh'
      have kX : Keeps ((g4 :: (Value.slice VA acc.length vc).ownBlock.toList) ++ E.filter (fun x => decide (x < wr.heap.size))) w6 X := by
        have k10 : Keeps ((g4 :: (Value.slice VA acc.length vc).ownBlock.toList) ++ E.filter (fun x => decide (x < wr.heap.size))) w6 (w8.setCell ⟨g4, 4, none⟩ (.slice A8 (acc.length + 1) c8)) := k69.mono (fun x hx => .inl (List.mem_append_left _ hx))
        refine k10.trans hk (fun x hx => ?_)
        rcases hcase x hx with h9 | h9
        · exact .inl (List.mem_append_right _ (List.mem_filter.2 ⟨hx, by simpa using h9⟩))
        · exact .inr (by omega)
      refine hp _ X (fun x hx => ?_) kX
      rcases List.mem_append.1 hx with hx | hx
      · rcases List.mem_cons.1 hx with hx | hx
        · omega
        · exact (hvl x hx).2
      · simpa using (List.mem_filter.1 hx).2
  · simp only [List.mem_cons] at hx
    rcases hx with hx | hx | hx
    · exact .inl (by simp [hx])
    · exact .inl (by simp [hx])
    · exact .inr (hvl x hx).1

end Go.Proofs.Ytnengckecooohaa
