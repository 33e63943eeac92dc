/- Texts of one proof, laid together: T17 T18 T19. -/
import Derived.Test.YtnengckecooohaaM23
import Derived.Test.YtnengckecooohaaM10
/- ber: lists in one another, as deep as one likes: what they are, as words. -/
namespace Go.Proofs.Ytnengckecooohaa
open Go.RowKit Go.Shelf
set_option linter.unusedVariables false
set_option linter.unusedSimpArgs false
set_option maxRecDepth 100000

/-- A text in i lists, one in the other. -/
def nestB : Nat → BV
  | 0 => .mk 0 4 false [120] []
  | i + 1 => .mk 0 16 true [] [nestB i]
theorem nest_nodes : ∀ i, nodesB (nestB i) = i + 1
  | 0 => by simp [nestB, nodesB, nodesL]
  | i + 1 => by simp only [nestB, nodesB, nodesL, nest_nodes i]; omega
theorem nest_max : ∀ i, maxB (nestB i) ≤ 1
  | 0 => by simp [nestB, maxB, maxL]
  | i + 1 => by have := nest_max i; simp only [nestB, maxB, maxL, List.length_nil]; omega
theorem nest_hgt : ∀ i, hgtB (nestB i) = i + 1
  | 0 => by simp [nestB, hgtB, hgtL]
  | i + 1 => by simp only [nestB, hgtB, hgtL, nest_hgt i]; omega
theorem nest_bad : ∀ i, badB (nestB i) = false
  | 0 => by simp [nestB, badB, badL, stands]
  | i + 1 => by simp [nestB, badB, badL, stands, nest_bad i]
theorem nest_deep : ∀ i d, d + i ≤ 16 → deepB d (nestB i) = false
  | 0, d, h => by simp [nestB, deepB, deepL]; omega
  | i + 1, d, h => by
    have h1 := nest_deep i (d + 1) (by omega)
    simp only [nestB, deepB, deepL, h1, Bool.or_false]
    simp; omega
theorem nest_deep2 : ∀ i d, 16 < d + i → deepB d (nestB i) = true
  | 0, d, h => by simp [nestB, deepB, deepL]; omega
  | i + 1, d, h => by
    have h1 := nest_deep2 i (d + 1) (by omega)
    simp only [nestB, deepB, deepL, h1, Bool.or_false, Bool.or_true]
theorem nest_size : ∀ i, i ≤ 50 → sizeB (nestB i) = 3 + 2 * i
  | 0, _ => by simp [nestB, sizeB, sizeL, lenB_small (n := 1) (by decide)]
  | i + 1, h => by
    have h1 := nest_size i (by omega)
    simp only [nestB, sizeB, sizeL, List.length_nil, Nat.zero_le, if_true, Nat.zero_add, h1]
    rw [lenB_small (by omega)]
    simp; omega
theorem nest_len : ∀ i, i ≤ 50 → (bytesB (nestB i)).length = 3 + 2 * i
  | 0, _ => by simp [nestB, bytesB, lenB_small (n := 1) (by decide)]
  | i + 1, h => by
    have h1 := nest_len i (by omega)
    simp only [nestB, bytesB, bytesL, if_true, List.append_nil, List.length_cons, List.length_append, h1]
    rw [lenB_small (by omega)]
    simp; omega
theorem nest_check (i : Nat) (h : i ≤ 50) : checkB (nestB i) = if i < 16 then 0 else 150 := by
  unfold checkB
  rw [nest_bad, nest_size i h]
  by_cases hi : i < 16
  · rw [nest_deep i 1 (by omega)]
    simp [hi]; omega
  · rw [nest_deep2 i 1 (by omega)]
    simp [hi]
theorem nest_far : ∀ (f i : Nat) (rest : List UInt8), f ≤ i → i ≤ 50 → nextD f (bytesB (nestB i) ++ rest) = .inl 150
  | 0, 0, rest, _, _ => by
    simp [nestB, bytesB, nextD]
    decide
  | 0, i + 1, rest, _, _ => by
    simp only [nestB, bytesB, if_true, List.cons_append, nextD]
    rw [if_neg (by decide)]
  | f + 1, i + 1, rest, h, hi => by
    have h1 := nest_far f i [] (by omega) (by omega)
    have hl := nest_len i (by omega)
    rw [List.append_nil] at h1
    generalize hb : bytesB (nestB i) = bs at h1 hl
    have e : bytesB (nestB (i + 1)) ++ rest = n8 48 :: (lenB bs.length ++ (bs ++ rest)) := by
      simp only [nestB, bytesB, bytesL, if_true, List.append_nil, hb, List.cons_append, List.append_assoc]
      rfl
    rw [e]
    unfold nextD
    have h2 : ¬ (n8 48).toNat % 32 = 31 := by decide
    have h3 : (n8 48).toNat / 32 % 2 = 1 := by decide
    simp only [h2, if_false, lenR_lenB bs.length (by omega) (bs ++ rest)]
    have h4 : ¬ (bs ++ rest).length < bs.length := by rw [List.length_append]; omega
    simp only [h4, h3, if_true, if_false]
    rw [List.take_left]
    cases bs with
    | nil => rw [List.length_nil] at hl; omega
    | cons x xs =>
      have h5 : itemsW (nextD f) (x :: xs).length (x :: xs) [] = .inl 150 := by
        rw [List.length_cons]
        unfold itemsW
        rw [h1]
      rw [h5]
/-- What the bytes of lists in one another are decoded to. -/
theorem nest_dec (i : Nat) (h : i ≤ 50) : (i < 16 → decD (bytesB (nestB i)) = .inr (nestB i)) ∧ (16 ≤ i → decD (bytesB (nestB i)) = .inl 150) := by
  refine ⟨fun hi => ?_, fun hi => ?_⟩
  · cases he : encB (nestB i) with
    | inl no =>
      have h1 := (check_enc (nestB i)).1 no he
      rw [nest_check i h, if_pos hi] at h1
      omega
    | inr xs =>
      rw [enc_bytes he]
      exact dec_back he
  · unfold decD
    rw [if_neg (by rw [nest_len i h]; omega)]
    unfold valD
    have h1 := nest_far 16 i [] hi h
    rw [List.append_nil] at h1
    rw [h1]

/-- A text's bytes. -/
theorem text_bytes (xs : List UInt8) : bytesB (.mk 0 4 false xs []) = n8 4 :: lenB xs.length ++ xs := by
  simp [bytesB]
theorem text_check (xs : List UInt8) : checkB (.mk 0 4 false xs []) = if 65536 < (lenB xs.length).length + 1 + xs.length then 3 else 0 := by
  have h := text_enc xs
  have h1 := check_enc (.mk 0 4 false xs [])
  split at h
  · rw [if_pos (by assumption)]
    exact (h1.1 3 h).1
  · rw [if_neg (by assumption)]
    exact h1.2 _ h
theorem text_dec (xs : List UInt8) : decD (n8 4 :: lenB xs.length ++ xs) = if 65536 < (lenB xs.length).length + 1 + xs.length then .inl 3 else .inr (.mk 0 4 false xs []) := by
  have h := text_enc xs
  split at h
  · rename_i hg
    rw [if_pos hg]
    unfold decD
    rw [if_pos (by simp; omega)]
  · rename_i hg
    rw [if_neg hg]
    exact dec_back h
theorem text_size (xs : List UInt8) : sizeB (.mk 0 4 false xs []) = 1 + (lenB xs.length).length + xs.length := by
  simp [sizeB, sizeL]

end Go.Proofs.Ytnengckecooohaa
/- ber: the document's Decode of a long text's bytes. -/
namespace Go.Proofs.Ytnengckecooohaa
open Go.RowKit Go.Shelf
set_option linter.unusedVariables false
set_option linter.unusedSimpArgs false
set_option maxRecDepth 100000

theorem results_row_tmp2 {fn : Func} {p q r : Tmp} {ty : TypeId} (h : fn.results = #[.cell p ty, .tmp q, .tmp r]) (tmps : Array Value) (w : World) (g : Nat) (cs : Array Value)
    (hp : tmps.getD p undef = .pointer (some ⟨g, 0, none⟩)) (hl : (loadVar ty ⟨g, 0, none⟩).run Try.prog w = .ok (.agg cs) w) :
    (results fn tmps).run Try.prog w = .ok (.tuple #[.agg cs, tmps.getD q undef, tmps.getD r undef]) w := by
  have hp' : tmps[p]?.getD undef = .pointer (some ⟨g, 0, none⟩) := by simpa using hp
  simp [results, h, hp', asAddr, hl, Sem.run_bind, Result.andThen]

/-- A text's bytes, 256 to 65535 of them, as the document's one reads them. -/
def OneQ (n m : Nat) (w : World) (e : Ending) (w' : World) : Prop :=
  (∃ D d, e = .returned (.tuple #[.agg #[.int .u8 0, .int .u8 4, .bool false, .slice D n d, .slice none 0 0], .int .i64 (m : Int), .int .i64 0])) ∧ Keeps [] w w'

set_option maxHeartbeats 4000000 in
theorem rone_flat (b o m c n : Nat) (p q : Nat) (w : World) (hpq : 256 * p + q = n) (hq : q < 256) (h1 : 256 ≤ n) (h2 : n < 65536) (hm : m = n + 4) (hmc : m ≤ c) (hc : c ≤ 9223372036854775807)
    (c0 : w.cell? ⟨b, o, none⟩ = some (.int .u8 4)) (c1 : w.cell? ⟨b, o + 1, none⟩ = some (.int .u8 130)) (c2 : w.cell? ⟨b, o + 2, none⟩ = some (.int .u8 (p : Int))) (c3 : w.cell? ⟨b, o + 3, none⟩ = some (.int .u8 (q : Int))) :
    Calls Try.prog 51 #[.slice (some ⟨b, o, none⟩) m c, .int .i64 1] w (OneQ n m w) := by
  have hp : p < 256 := by omega
  have HM : Hid (∀ X, Calls Try.prog 42 #[.int .i64 (n : Int)] X fun e w' => e = .returned (.int .i64 3) ∧ X = w') := fun X => by
    have h9 := many_is n X (by omega)
    have h8 := lenB_many (n := n) (by omega)
    have e2 : (natL n).length = 2 := by
      rw [natL_pos (by omega), List.length_cons, natL_pos (by omega), List.length_cons, show n / 256 / 256 = 0 by omega, natL_zero]; rfl
    rw [if_neg (by omega), e2] at h8
    rw [h8] at h9
    exact h9
  obtain ⟨B, d, hsl⟩ : ∃ B d, ∀ W, (Instr.slice 22 (.slice (some ⟨b, o, none⟩) m c) (some (.int .i64 4)) (some (.int .i64 (m : Int))) none).run Try.prog W = .ok (.slice B n d) W := by
    refine ⟨if c = 4 then some ⟨b, o, none⟩ else (some ⟨b, o, none⟩ : Option Addr).map (·.add 4), c - 4, fun W => ?_⟩
    rw [run_slice_lh W 22 (some ⟨b, o, none⟩) m c (by simp [Program.elem, Try.underlying22]) .i64 .i64 4 _ (by omega) (by omega) (by omega)]
    rw [show Try.prog.elem 22 = 5 by simp [Program.elem, Try.underlying22], Try.sizeOf5]
    have hn4 : m - 4 = n := by omega
    simp [Result.andThen, sliced, hn4]
  obtain ⟨y, hy⟩ : ∃ y : Int, (n : Int) = y := ⟨_, rfl⟩
  obtain ⟨u, hu⟩ : ∃ u : Int, (p : Int) = u := ⟨_, rfl⟩
  obtain ⟨v, hv⟩ : ∃ v : Int, (q : Int) = v := ⟨_, rfl⟩
  have HZ : Hid ((m : Int) = y + 4) := by show _ = _; omega
  have HY : Hid (y = 256 * u + v) := by show _ = _; omega
  have hy1 : 256 ≤ y := by omega
  have hy2 : y < 65536 := by omega
  have hu0 : 0 ≤ u ∧ u < 256 := by omega
  have hv0 : 0 ≤ v ∧ v < 256 := by omega
  have hm1 : ¬ (m : Int) < 1 := by omega
  have hm2 : ¬ (m : Int) < 2 := by omega
  have hm4 : ¬ (m : Int) < 4 := by omega
  have hi0 : 0 < (m : Int) := by omega
  have hi1 : 1 < (m : Int) := by omega
  have hi2 : 2 < (m : Int) := by omega
  have hi3 : 3 < (m : Int) := by omega
  have hn0 : 0 < m := by omega
  have hmx : (m : Int) ≤ 70000 := by omega
  unfold OneQ
  rw [hy] at HM
  rw [hu] at c2
  rw [hv] at c3
  obtain ⟨W0, hW0⟩ : ∃ W0, w.alloc ber0 = W0 := ⟨_, rfl⟩
  have hk0 : Keeps [] w W0 := by rw [← hW0]; exact (Keeps.refl [] w).alloc _
  have hr0 : W0.heap[w.heap.size]? = some ber0 := by rw [← hW0]; exact heap_new8 w _
  have HR0 := Lib.hid hr0
  have HK0 := Lib.hid hk0
  have d0 := (hk0.cell (lt_of_cell c0) (by simp)).trans c0
  have d1 := (hk0.cell (lt_of_cell c1) (by simp)).trans c1
  have d2 := (hk0.cell (lt_of_cell c2) (by simp)).trans c2
  have d3 := (hk0.cell (lt_of_cell c3) (by simp)).trans c3
  have HSL := Lib.hid hsl
  have hne : ¬ W0.heap.size = w.heap.size := by rw [← hW0]; simp
  have hne2 : ¬ w.heap.size = W0.heap.size := fun h => hne h.symm
  have e0 : (W0.alloc ber0).cell? ⟨b, o, none⟩ = some (.int .u8 4) := (((Keeps.refl [] W0).alloc _).cell (lt_of_cell d0) (by simp)).trans d0
  clear hk0 hr0 hy hu hv hpq hq h1 h2 hmc hc hp c0 c1 c2 c3 hm hsl
  go_enter Try.func51, Try.ntmps51
  go_wp2_with fail
  go_region
  have hk1 : Keeps [] W0 (W0.alloc (.cells #[.int .u8 0, .int .u8 4, .bool false, .slice none 0 0, .slice none 0 0] 25)).drew := ((Keeps.refl [] W0).alloc _).drew
  have hr1 : (W0.alloc (.cells #[.int .u8 0, .int .u8 4, .bool false, .slice none 0 0, .slice none 0 0] 25)).drew.heap[W0.heap.size]? = some (.cells #[.int .u8 0, .int .u8 4, .bool false, .slice none 0 0, .slice none 0 0] 25 (0, 0)) := heap_new8 W0 _
  generalize (W0.alloc (.cells #[.int .u8 0, .int .u8 4, .bool false, .slice none 0 0, .slice none 0 0] 25)).drew = W1 at *
  have f1 := (hk1.cell (lt_of_cell d1) (by simp)).trans d1
  have f2 := (hk1.cell (lt_of_cell d2) (by simp)).trans d2
  have f3 := (hk1.cell (lt_of_cell d3) (by simp)).trans d3
  have hr0 := blk_keep HR0.out hk1 (by simp)
  obtain ⟨⟨s0, s1, s2, s3, s4⟩, ⟨z0, z1, z2, z3, z4⟩⟩ := five_facts hr0
  obtain ⟨⟨t0, t1, t2, t3, t4⟩, ⟨x0, x1, x2, x3, x4⟩⟩ := five_facts hr1
  have HR0' := Lib.hid hr0
  have HR1 := Lib.hid hr1
  have HK1 := Lib.hid hk1
  have hm4 : ¬ (m : Int) < 4 := by omega
  clear hr0 hr1 hk1 d0 d1 d2 d3 e0
  go_wp2_with fail
  go_loopw [8, 11] (fun a i wr => ∃ (j : Nat) (x : Int), a = .int .i64 x ∧ i = .int .i64 (j : Int) ∧ (j = 0 ∧ x = 0 ∨ j = 1 ∧ x = u ∨ j = 2 ∧ x = y) ∧ wr = W1) (fun _ i _ => 2 - (intOf i).toNat)
  case atStart => exact ⟨0, 0, rfl, rfl, .inl ⟨rfl, rfl⟩, rfl⟩
  case round =>
    obtain ⟨j, x, rfl, rfl, hj, rfl⟩ := hrel
    rcases hj with ⟨rfl, hx⟩ | ⟨rfl, hx⟩ | ⟨rfl, hx⟩
    all_goals have hx := hx.symm; subst hx
    · go_wp2_with fail
      go_roundw
      case rel => exact ⟨1, u, by go_num, by go_num, .inr (.inl ⟨rfl, rfl⟩), trivial⟩
      case measure => simp [intOf]
    · have HW : Hid (256 * u + v = y) := HY.out.symm
      go_wp2_with fail
      go_roundw
      case rel => exact ⟨2, y, by rw [HW.out], by go_num, .inr (.inr ⟨rfl, rfl⟩), trivial⟩
      case measure => simp [intOf]
    · go_wp2_with fail
      refine (HM.out _).mono ?_
      rintro e w2 ⟨rfl, rfl⟩
      have hsub : ¬ ((m : Int) - 4 < y) := by have := HZ.out; omega
      have hs2 : ∀ W, (Instr.slice 22 (.slice (some ⟨b, o, none⟩) m c) (some (.int .i64 4)) (some (.int .i64 (4 + y))) none).run Try.prog W = .ok (.slice B n d) W := fun W => by
        have h9 := HSL.out W
        rw [show (m : Int) = 4 + y by have := HZ.out; omega] at h9
        exact h9
      have hwy : wrap64 (4 + y) = 4 + y := by unfold wrap64; omega
      go_wp2_with fail
      have hks : Keeps [W0.heap.size] wr (wr.setCell ⟨W0.heap.size, 3, none⟩ (.slice B n d)) := (Keeps.refl _ _).setCell (.inl (by simp)) _
      have hrow := five_set (v0 := .int .u8 0) (v1 := .int .u8 4) (v2 := .bool false) (v3 := .slice B n d) (v4 := .slice none 0 0) (blk_keep HR0'.out hks (by simpa using hne2))
      have hmy : (m : Int) = 4 + y := by have := HZ.out; omega
      rw [hmy]
      have hz1 : w.heap.size ≤ W0.heap.size := HK0.out.size
      refine bodyPost_ret (results_row_tmp2 rfl _ _ w.heap.size _ rfl (run_loadVar_row (P := Try.prog) _ w.heap.size 25 25 _ (0, 0) _ hrow Try.underlying25 rfl (by kernel_rfl))) rfl ⟨⟨B, d, rfl⟩, ?_⟩
      exact (((((((HK0.out.trans' HK1.out).setCell (.inr hz1) _).setCell (.inr (Nat.le_refl _)) _).setCell (.inr (Nat.le_refl _)) _).setCell (.inr (Nat.le_refl _)) _).setCell (.inr (Nat.le_refl _)) _).setCell (.inr (Nat.le_refl _)) _)

end Go.Proofs.Ytnengckecooohaa
/- ber: the document's Decode of a long text's bytes: what it tells. -/
namespace Go.Proofs.Ytnengckecooohaa
open Go.RowKit Go.Shelf
set_option linter.unusedVariables false
set_option linter.unusedSimpArgs false
set_option maxRecDepth 100000

/-- What the document's Decode tells of a long text's bytes. -/
def RDecQ (no : Int) (w : World) (e : Ending) (w' : World) : Prop :=
  (∃ (x : Int) (D : Option Addr) (n d : Nat), e = .returned (.tuple #[.agg #[.int .u8 0, .int .u8 x, .bool false, .slice D n d, .slice none 0 0], .int .i64 no])) ∧ Keeps [] w w'

theorem rdec_long (A : Option Addr) (m c : Nat) (w : World) (hm : 65536 < m) : Calls Try.prog 31 #[.slice A m c] w (RDecQ 3 w) := by
  have hmi : (65536 : Int) < (m : Int) := by omega
  obtain ⟨W0, hW0⟩ : ∃ W0, w.alloc ber0 = W0 := ⟨_, rfl⟩
  have hk0 : Keeps [] w W0 := by rw [← hW0]; exact (Keeps.refl [] w).alloc _
  have hr0 : W0.heap[w.heap.size]? = some ber0 := by rw [← hW0]; exact heap_new8 w _
  obtain ⟨⟨s0, s1, s2, s3, s4⟩, ⟨z0, z1, z2, z3, z4⟩⟩ := five_facts hr0
  have HR0 := Lib.hid hr0
  have HK0 := Lib.hid hk0
  clear hr0 hk0 hm
  unfold RDecQ
  go_enter Try.func31, Try.ntmps31
  go_wp2_with fail
  have hrow := five_set (v0 := .int .u8 0) (v1 := .int .u8 0) (v2 := .bool false) (v3 := .slice none 0 0) (v4 := .slice none 0 0) HR0.out
  refine bodyPost_ret (results_row_tmp rfl _ _ w.heap.size _ rfl (run_loadVar_row (P := Try.prog) _ w.heap.size 25 25 _ (0, 0) _ hrow Try.underlying25 rfl (by kernel_rfl))) rfl ⟨⟨0, none, 0, 0, rfl⟩, ?_⟩
  exact ((((((HK0.out).setCell (.inr (Nat.le_refl _)) _).setCell (.inr (Nat.le_refl _)) _).setCell (.inr (Nat.le_refl _)) _).setCell (.inr (Nat.le_refl _)) _).setCell (.inr (Nat.le_refl _)) _)

theorem rdec_fits (b o m c n p q : Nat) (w : World) (hpq : 256 * p + q = n) (hq : q < 256) (h1 : 256 ≤ n) (h2 : n ≤ 65532) (hm : m = n + 4) (hmc : m ≤ c) (hc : c ≤ 9223372036854775807)
    (c0 : w.cell? ⟨b, o, none⟩ = some (.int .u8 4)) (c1 : w.cell? ⟨b, o + 1, none⟩ = some (.int .u8 130)) (c2 : w.cell? ⟨b, o + 2, none⟩ = some (.int .u8 (p : Int))) (c3 : w.cell? ⟨b, o + 3, none⟩ = some (.int .u8 (q : Int))) :
    Calls Try.prog 31 #[.slice (some ⟨b, o, none⟩) m c] w (RDecQ 0 w) := by
  have hmi : ¬ (65536 : Int) < (m : Int) := by omega
  obtain ⟨W0, hW0⟩ : ∃ W0, w.alloc ber0 = W0 := ⟨_, rfl⟩
  have hk0 : Keeps [] w W0 := by rw [← hW0]; exact (Keeps.refl [] w).alloc _
  have hr0 : W0.heap[w.heap.size]? = some ber0 := by rw [← hW0]; exact heap_new8 w _
  have HONE := Lib.hid (rone_flat b o m c n p q W0 hpq hq h1 (by omega) hm hmc hc ((hk0.cell (lt_of_cell c0) (by simp)).trans c0) ((hk0.cell (lt_of_cell c1) (by simp)).trans c1) ((hk0.cell (lt_of_cell c2) (by simp)).trans c2) ((hk0.cell (lt_of_cell c3) (by simp)).trans c3))
  have HR0 := Lib.hid hr0
  have HK0 := Lib.hid hk0
  clear hr0 hk0 hm c0 c1 c2 c3 hpq hq h1 h2 hmc hc
  unfold RDecQ
  go_enter Try.func31, Try.ntmps31
  go_wp2_with fail
  refine HONE.out.mono ?_
  rintro e w1 ⟨⟨D, d, rfl⟩, hk1⟩
  have hr1 := blk_keep HR0.out hk1 (by simp)
  obtain ⟨W2, hW2⟩ : ∃ W2, w1.alloc (.cells #[.int .u8 0, .int .u8 4, .bool false, .slice D n d, .slice none 0 0] 25) = W2 := ⟨_, rfl⟩
  have hk2 : Keeps [] w1 W2 := by rw [← hW2]; exact (Keeps.refl [] w1).alloc _
  have hr2 : W2.heap[w1.heap.size]? = some (.cells #[.int .u8 0, .int .u8 4, .bool false, .slice D n d, .slice none 0 0] 25 (0, 0)) := by rw [← hW2]; exact heap_new8 w1 _
  have hr12 := blk_keep hr1 hk2 (by simp)
  obtain ⟨⟨s0, s1, s2, s3, s4⟩, ⟨z0, z1, z2, z3, z4⟩⟩ := five_facts hr12
  obtain ⟨⟨t0, t1, t2, t3, t4⟩, ⟨x0, x1, x2, x3, x4⟩⟩ := five_facts hr2
  have HR12 := Lib.hid hr12
  have HK1 := Lib.hid (HK0.out.trans' hk1)
  have HK2 := Lib.hid (HK0.out.trans' (hk1.trans' hk2))
  have hlt : w.heap.size < w1.heap.size := lt_of_heap hr1
  have hne : ¬ w1.heap.size = w.heap.size := by omega
  have hne2 : ¬ w.heap.size = w1.heap.size := by omega
  clear hr1 hr2 hr12 hk1 hk2 hlt
  go_wp2_with fail
  have hks : Keeps [w1.heap.size] W2 (W2.setCell ⟨w1.heap.size, 4, none⟩ (.slice none 0 0)) := (Keeps.refl _ _).setCell (.inl (by simp)) _
  have hrow := five_set (v0 := .int .u8 0) (v1 := .int .u8 4) (v2 := .bool false) (v3 := .slice D n d) (v4 := .slice none 0 0) (blk_keep HR12.out hks (by simpa using hne2))
  have hz1 := HK1.out.size
  refine bodyPost_ret (results_row_tmp rfl _ _ w.heap.size _ rfl (run_loadVar_row (P := Try.prog) _ w.heap.size 25 25 _ (0, 0) _ hrow Try.underlying25 rfl (by kernel_rfl))) rfl ⟨⟨4, D, n, d, rfl⟩, ?_⟩
  exact (((((((HK2.out).setCell (.inr hz1) _).setCell (.inr (Nat.le_refl _)) _).setCell (.inr (Nat.le_refl _)) _).setCell (.inr (Nat.le_refl _)) _).setCell (.inr (Nat.le_refl _)) _).setCell (.inr (Nat.le_refl _)) _)

/-- A long text's bytes, as the document's Decode reads them. -/
theorem rdec_text (A : Option Addr) (m c : Nat) (ys : List UInt8) (w : World) (h1 : 65500 ≤ ys.length) (h2 : ys.length ≤ 65560) (hm : (n8 4 :: lenB ys.length ++ ys).length = m) (hb : BytesAt w (.slice A m c) (n8 4 :: lenB ys.length ++ ys)) :
    Calls Try.prog 31 #[.slice A m c] w (RDecQ (if 65536 < (lenB ys.length).length + 1 + ys.length then 3 else 0) w) := by
  have hmm : m = (lenB ys.length).length + 1 + ys.length := by rw [← hm]; simp; omega
  by_cases hbig : 65536 < (lenB ys.length).length + 1 + ys.length
  · rw [if_pos hbig]
    exact rdec_long A m c w (by omega)
  · rw [if_neg hbig]
    have hl3 : lenB ys.length = [n8 130, n8 ((ys.length / 256 : Nat) : Int), n8 (ys.length : Int)] := by
      have hlt : ys.length < 65536 := by omega
      rw [lenB_big (by omega) (by omega), natL_pos (by omega), natL_pos (by omega), show ys.length / 256 / 256 = 0 by omega, natL_zero]
      rfl
    obtain ⟨b, o, rfl, hc⟩ := bytes_addr hb (by omega)
    have hm4 : m = ys.length + 4 := by rw [hmm, hl3]; simp; omega
    have hcap : m ≤ c ∧ c ≤ 9223372036854775807 := by
      obtain ⟨A', c', he, h3, h4, h5⟩ := hb
      injection he with _ e2 e3
      subst e2 e3
      unfold maxLen at h4
      omega
    have g := fun i u hu => hc i u hu
    rw [hl3] at g
    have g0 := g 0 (n8 4) rfl
    have g1 := g 1 (n8 130) rfl
    have g2 := g 2 (n8 ((ys.length / 256 : Nat) : Int)) rfl
    have g3 := g 3 (n8 (ys.length : Int)) rfl
    have e2 : (n8 ((ys.length / 256 : Nat) : Int)).toNat = ys.length / 256 := by
      have := n8_val ((ys.length / 256 : Nat) : Int); omega
    have e3 : (n8 (ys.length : Int)).toNat = ys.length % 256 := by
      have := n8_val (ys.length : Int); omega
    unfold bv at g0 g1 g2 g3
    rw [e2] at g2
    rw [e3] at g3
    exact rdec_fits b o m c ys.length (ys.length / 256) (ys.length % 256) w (by omega) (by omega) (by omega) (by omega) hm4 hcap.1 hcap.2 g0 g1 g2 g3

end Go.Proofs.Ytnengckecooohaa
