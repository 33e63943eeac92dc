/- Texts of one proof, laid together: T21. -/
import Derived.Test.YtnengckecooohaaM20
import Derived.Test.YtnengckecooohaaM19
import Derived.Test.YtnengckecooohaaM21
import Derived.Deep.CutBlock
import Derived.Deep.DeepCutAuto
import Derived.Deep.RegionHeld3
import Derived.StillTactics
/- ber: whole numbers of any value, and what is none. -/
namespace Go.Proofs.Ytnengckecooohaa
open Go.RowKit Go.Shelf
set_option linter.unusedVariables false
set_option linter.unusedSimpArgs false
set_option maxRecDepth 100000

/-- A number with a tag, as the law lays it. -/
structure NumAt (w0 W : World) (g cl nu l : Nat) (xs : List UInt8) (A : Option Addr) (c : Nat) (B : Option Addr) (e : Nat) : Prop where
  blk : W.heap[g]? = some (.cells #[.int .u8 (cl : Int), .int .u8 (nu : Int), .bool false, .slice A l c, .slice B 0 e] 25 (0, 0))
  bytes : BytesAt W (.slice A l c) xs
  keeps : Keeps [] w0 W

theorem sgnB_in : ∀ xs : List UInt8, -9223372036854775808 ≤ sgnB xs ∧ sgnB xs ≤ 9223372036854775807
  | [] => by simp [sgnB]
  | x :: r => by
    have hx : x.toNat < 256 := x.toNat_lt
    show _ ≤ numZ (if x.toNat < 128 then (x.toNat : Int) else (x.toNat : Int) - 256) r ∧ numZ (if x.toNat < 128 then (x.toNat : Int) else (x.toNat : Int) - 256) r ≤ _
    exact numZ_in r _ (by split <;> omega)

theorem tagged_own (t : BV) (h : BH) (cl nu : Nat) (w : World) (ht : BerAt w t h) (hn : nodesB t ≤ 1000000000) (hm : maxB t ≤ 1000000000) (hcl : cl < 256) (hnu : nu < 256) :
    Calls Try.prog 19 #[h.val, .int .u8 (cl : Int), .int .u8 (nu : Int)] w fun e w' => ∃ h' : BH, e = .returned h'.val ∧ (∀ (E : List Nat) X, (∀ x ∈ E, x < w.heap.size) → Keeps E w' X → BerAt X (.mk cl nu t.k t.b t.l) h') ∧ Keeps [] w w' := by
  have HT := Lib.hid ht
  obtain ⟨c, n, k, A, la, ca, B, lb, cb⟩ := h
  clear ht
  obtain ⟨W0, hW0⟩ : ∃ W0, (w.alloc (.cells #[.int .u8 (c : Int), .int .u8 (n : Int), .bool k, .slice A la ca, .slice B lb cb] 25)).alloc ber0 = W0 := ⟨_, rfl⟩
  have hz0 : W0.heap.size = w.heap.size + 2 := by rw [← hW0]; simp
  have hk0 : Keeps [] w W0 := by rw [← hW0]; exact ((Keeps.refl [] w).alloc _).alloc _
  have hr0 : W0.heap[w.heap.size]? = some (.cells #[.int .u8 (c : Int), .int .u8 (n : Int), .bool k, .slice A la ca, .slice B lb cb] 25 (0, 0)) := by rw [← hW0]; exact (Below.heap_alloc _ _ _ (by simp)).trans (heap_new8 w _)
  have hr1 : W0.heap[w.heap.size + 1]? = some ber0 := by
    rw [← hW0]
    have h9 := heap_new8 (w.alloc (.cells #[.int .u8 (c : Int), .int .u8 (n : Int), .bool k, .slice A la ca, .slice B lb cb] 25)) ber0
    rwa [World.size_alloc] at h9
  obtain ⟨⟨y0, y1, y2, y3, y4⟩, _⟩ := five_facts hr0
  obtain ⟨W1, hW1⟩ : ∃ W1, W0.alloc (.cells #[.int .u8 (c : Int), .int .u8 (n : Int), .bool k, .slice A la ca, .slice B lb cb] 25) = W1 := ⟨_, rfl⟩
  have hz1 : W1.heap.size = w.heap.size + 3 := by rw [← hW1]; simp [hz0]
  have hk1 : Keeps [] W0 W1 := by rw [← hW1]; exact (Keeps.refl [] W0).alloc _
  have hr2 : W1.heap[W0.heap.size]? = some (.cells #[.int .u8 (c : Int), .int .u8 (n : Int), .bool k, .slice A la ca, .slice B lb cb] 25 (0, 0)) := by rw [← hW1]; exact heap_new8 W0 _
  have HZ1 := Lib.hid hz1
  have HR1 := Lib.hid (blk_keep hr1 hk1 (by simp))
  have HK1 := Lib.hid (hk0.trans' hk1)
  have HC := Lib.hid (copies_is (some ⟨W0.heap.size, 0, none⟩) 1 1 [t] W1 rfl ⟨⟨_, _, ⟨c, n, k, A, la, ca, B, lb, cb⟩, rfl, fun q u hu => by rw [cell_of_blk hr2]; simpa [BH.list] using hu, BerAt.grow (hk0.trans' hk1) t _ HT.out⟩, trivial⟩ (by simp [nodesL]; omega) (by simp [maxL]; omega))
  clear hr2 hk0 hk1 hr0 hr1 hz0 hz1 HT hn hm
  unfold BH.val
  go_enter Try.func19, Try.ntmps19
  go_wp2_with fail
  refine HC.out.mono ?_
  rintro e w2 ⟨C, d, rfl, hi, hd1, hd2, hk2, hC⟩
  obtain ⟨⟨b, o, h, rfl, hcc, hbb⟩, _⟩ := hi [] w2 (by simp) (Keeps.refl _ _)
  rw [Nat.zero_mul, Nat.add_zero] at hcc
  obtain ⟨g0, g1, g2, g3, g4⟩ := five_at hcc
  have hr2 := blk_keep HR1.out hk2 (by simp)
  have HBER : Hid (∀ (E : List Nat) X, (∀ x ∈ E, x < w.heap.size + 2) → Keeps E w2 X → BerAt X t h) := fun E X hE hk => by
    obtain ⟨⟨b', o', h', hB, hcc', hbb'⟩, _⟩ := hi E X (fun x hx => by have := HZ1.out; have := hE x hx; omega) hk
    injection hB with hB
    injection hB with e1 e2 _
    subst e1 e2
    have hne : b ∉ E := fun hb => by
      have h8 := hC b (by simp [ob])
      have h9 := HZ1.out
      have h10 := hE b hb
      omega
    have he : h' = h := by
      have hs : ∀ q u, h.list[q]? = some u → h'.list[q]? = some u := fun q u hu => by
        have h8 := (hk.cell (lt_of_cell (hcc q u hu)) hne).trans (hcc q u hu)
        have hq : q < 5 := (List.getElem?_eq_some_iff.1 hu).1
        have h9 : h'.list[q]? = some (h'.list[q]'hq) := List.getElem?_eq_getElem _
        have h10 := hcc' q _ h9
        rw [Nat.zero_mul, Nat.add_zero] at h10
        rw [h8] at h10
        rw [h9]
        exact h10.symm
      have s0 := hs 0 _ rfl
      have s1 := hs 1 _ rfl
      have s2 := hs 2 _ rfl
      have s3 := hs 3 _ rfl
      have s4 := hs 4 _ rfl
      obtain ⟨_, _, _, _, _, _, _, _, _⟩ := h
      obtain ⟨_, _, _, _, _, _, _, _, _⟩ := h'
      simp [BH.list] at s0 s1 s2 s3 s4
      have s0 := Int.ofNat_inj.1 s0
      have s1 := Int.ofNat_inj.1 s1
      obtain ⟨s3, s5, s6⟩ := s3
      obtain ⟨s4, s7, s8⟩ := s4
      rw [s0, s1, s2, s3, s4, s5, s6, s7, s8]
    rw [← he]
    exact hbb'
  obtain ⟨c', n', k', A', la', ca', B', lb', cb'⟩ := h
  obtain ⟨W3, hW3⟩ : ∃ W3, w2.alloc (.cells #[.int .u8 (cl : Int), .int .u8 (nu : Int), .bool k', .slice A' la' ca', .slice B' lb' cb'] 25) = W3 := ⟨_, rfl⟩
  have hk3 : Keeps [] w2 W3 := by rw [← hW3]; exact (Keeps.refl [] w2).alloc _
  have hr3 := blk_keep hr2 hk3 (by simp)
  obtain ⟨⟨x0, x1, x2, x3, x4⟩, ⟨f0, f1, f2, f3, f4⟩⟩ := five_facts hr3
  have hn3 : W3.heap[w2.heap.size]? = some (.cells #[.int .u8 (cl : Int), .int .u8 (nu : Int), .bool k', .slice A' la' ca', .slice B' lb' cb'] 25 (0, 0)) := by rw [← hW3]; exact heap_new8 w2 _
  obtain ⟨⟨v0, v1, v2, v3, v4⟩, _⟩ := five_facts hn3
  have HR3 := Lib.hid hr3
  have HK3 := Lib.hid hk3
  have HKA := Lib.hid (HK1.out.trans' (hk2.trans' hk3))
  clear hr3 hk3 hk2 hr2 hi hcc hbb hC hn3
  go_wp2_with fail
  have hrow := five_set (v0 := .int .u8 (cl : Int)) (v1 := .int .u8 (nu : Int)) (v2 := .bool k') (v3 := .slice A' la' ca') (v4 := .slice B' lb' cb') HR3.out
  have hkf := five_keep (v0 := .int .u8 (cl : Int)) (v1 := .int .u8 (nu : Int)) (v2 := .bool k') (v3 := .slice A' la' ca') (v4 := .slice B' lb' cb') HKA.out (g := w.heap.size + 1) (.inr (Nat.le_succ _))
  have hks := five_keep (bs := [w.heap.size + 1]) (v0 := .int .u8 (cl : Int)) (v1 := .int .u8 (nu : Int)) (v2 := .bool k') (v3 := .slice A' la' ca') (v4 := .slice B' lb' cb') (HK3.out.mono (by simp)) (g := w.heap.size + 1) (.inl (by simp))
  refine ret_ber rfl rfl rfl hrow rfl ⟨⟨cl, nu, k', A', la', ca', B', lb', cb'⟩, rfl, fun E X hE hk => ?_, hkf⟩
  have hk9 : Keeps ((w.heap.size + 1) :: E) w2 X := (hks.mono (by simp)).trans hk (fun x hx => .inl (List.mem_cons_of_mem _ hx))
  have h9 := HBER.out ((w.heap.size + 1) :: E) X (fun x hx => by
    rcases List.mem_cons.1 hx with hx | hx
    · omega
    · have := hE x hx; omega) hk9
  obtain ⟨tc, tn, tk, tb, tl⟩ := t
  obtain ⟨q1, q2, q3, q4, q5, q6, q7, q8, q9, q10, q11⟩ := h9
  exact ⟨rfl, rfl, q3, hcl, hnu, q6, q7, q8, q9, q10, q11⟩


theorem still_on {P : Program} {ops : Array Oper} {w : World} {Q : Act → Prop} {rest : List Oper} {a a' : Act} {o : Oper} (hw : Region.wanted o (yielded ops a.tmps) = true) (ho : ∀ K : Act → Prop, K a' → o.still P a w K) (h : Hid (wpStill P ops w Q rest a')) : Hid (wpStill P ops w Q (o :: rest) a) :=
  wpStill_step fun K hK => by rw [if_pos hw]; exact ho K (hK _ h)
theorem still_off {P : Program} {ops : Array Oper} {w : World} {Q : Act → Prop} {rest : List Oper} {a : Act} {o : Oper} (hw : Region.wanted o (yielded ops a.tmps) = false) (h : Hid (wpStill P ops w Q rest (a.put o.dst undef))) : Hid (wpStill P ops w Q (o :: rest) a) :=
  wpStill_step fun K hK => by rw [if_neg (by rw [hw]; decide)]; exact hK _ h
theorem still_end {P : Program} {ops : Array Oper} {w : World} {Q : Act → Prop} {a : Act} (h : Q a) : Hid (wpStill P ops w Q [] a) := h
theorem region_Y {P : Program} {id : Nat} {Q : Exit → Act → World → Prop} {a : Act} {w : World} {l : List Oper} (hm : P.follows .mixedOrders = true) (hB : Region.lexB .any l.toArray = true)
    (h : ∀ Z : List Oper → Act → Prop, (∀ (o : Oper) (rest : List Oper) (a a' : Act), Region.wanted o (yielded l.toArray a.tmps) = true → (∀ K : Act → Prop, K a' → o.still P a w.drew K) → Z rest a' → Z (o :: rest) a) →
      (∀ (o : Oper) (rest : List Oper) (a : Act), Region.wanted o (yielded l.toArray a.tmps) = false → Z rest (a.put o.dst undef) → Z (o :: rest) a) → (∀ a, Q .normal a w.drew → Z [] a) → Z l a) : (Code.region id l.toArray true).wp P Q a w :=
  wp_region_still_lit hm hB (h (fun r a => wpStill P l.toArray w.drew (fun a' => Q .normal a' w.drew) r a) (fun o rest a a' h1 h2 h3 => still_on h1 h2 h3) (fun o rest a h1 h2 => still_off h1 h2) (fun a h1 => still_end h1))

end Go.Proofs.Ytnengckecooohaa
