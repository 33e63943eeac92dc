/- Texts of one proof, laid together: E2 E3 E4 E5. -/
import Derived.Test.YtnengckecooohaaM03
import Derived.Laws.IdiomStrings
import Derived.Laws.BitsAllLaws
/- ber: common values that hold bytes. -/
namespace Go.Proofs.Ytnengckecooohaa
open Go.RowKit Go.Shelf
set_option linter.unusedVariables false
set_option linter.unusedSimpArgs false
set_option maxRecDepth 100000

theorem u8int_small (num : Nat) (h : num < 256) : IntKind.wrap .u8 (num : Int) = (num : Int) := by
  have e : IntKind.wrap .u8 (num : Int) = (num : Int) % 256 := by simp [IntKind.wrap, IntKind.bits, IntKind.signed]
  rw [e]
  omega
theorem own_info8 {w : World} {base : Nat} {A : Option Addr} {c : Nat} {xs : List UInt8} (h : w.ownsRow base 5 1 (.slice A xs.length c) xs.length (xs.map bv)) : BytesAt w (.slice A xs.length c) xs := BytesAt.of_own h

theorem heap_new8 (w : World) (o : Obj) : (w.alloc o).heap[w.heap.size]? = some o := by
  show (w.heap.push o)[w.heap.size]? = _
  simp
/-- A text as bytes: room and cells left open. -/
theorem conv8 (k : List UInt8) (hk : k.length ≤ 9223372036854775807) : ∃ (C : World → Nat) (O : World → Obj), (∀ W, (convert 9 22 (.string ⟨k.toArray⟩)).run Try.prog W = .ok (.slice (some ⟨W.heap.size, 0, none⟩) k.length (C W)) (W.drew.alloc (O W))) ∧ ∀ (W : World), BytesAt (W.drew.alloc (O W)) (.slice (some ⟨W.heap.size, 0, none⟩) k.length (C W)) k := by
  refine ⟨fun W => grownCap W k.length 0 5, fun W => .cells (bytesRow ⟨k.toArray⟩ (grownCap W k.length 0 5)) 5 ((bytesRow ⟨k.toArray⟩ (grownCap W k.length 0 5)).size, (bytesRow ⟨k.toArray⟩ (grownCap W k.length 0 5)).size + 1), fun W => ?_, fun W => ?_⟩
  · exact run_bytes_of_string W 9 22 5 ⟨k.toArray⟩ Try.underlying9 Try.underlying22 Try.underlying5
  · refine ⟨_, grownCap W k.length 0 5, rfl, grownCap_ge W _ _ _, grownCap_le_maxLen W _ _ _ (by unfold maxLen; omega), fun _ => ⟨W.heap.size, 0, rfl, fun i u hu => ?_⟩⟩
    have hi : i < k.length := (List.getElem?_eq_some_iff.1 hu).1
    rw [Nat.zero_add]
    unfold World.cell?
    have e := heap_new8 W.drew (.cells (bytesRow ⟨k.toArray⟩ (grownCap W k.length 0 5)) 5 ((bytesRow ⟨k.toArray⟩ (grownCap W k.length 0 5)).size, (bytesRow ⟨k.toArray⟩ (grownCap W k.length 0 5)).size + 1))
    rw [show W.drew.heap.size = W.heap.size from rfl] at e
    rw [e]
    simp only [bytesRow, List.map_toArray]
    rw [Array.getElem?_append_left (by simpa using hi)]
    simp [hu, bv]

theorem five_set {w : World} {g : Nat} {a b c d e v0 v1 v2 v3 v4 : Value} {t : TypeId} (h : w.heap[g]? = some (.cells #[a, b, c, d, e] t (0, 0))) :
    (((((w.setCell ⟨g, 0, none⟩ v0).setCell ⟨g, 1, none⟩ v1).setCell ⟨g, 2, none⟩ v2).setCell ⟨g, 3, none⟩ v3).setCell ⟨g, 4, none⟩ v4).heap[g]? = some (.cells #[v0, v1, v2, v3, v4] t (0, 0)) :=
  heap_setCell_same _ g 4 _ t v4 (heap_setCell_same _ g 3 _ t v3 (heap_setCell_same _ g 2 _ t v2 (heap_setCell_same _ g 1 _ t v1 (heap_setCell_same w g 0 _ t v0 h))))
theorem five_keep {w w2 : World} {bs : List Nat} {g : Nat} {v0 v1 v2 v3 v4 : Value} (h : Keeps bs w w2) (hg : g ∈ bs ∨ w.heap.size ≤ g) :
    Keeps bs w (((((w2.setCell ⟨g, 0, none⟩ v0).setCell ⟨g, 1, none⟩ v1).setCell ⟨g, 2, none⟩ v2).setCell ⟨g, 3, none⟩ v3).setCell ⟨g, 4, none⟩ v4) :=
  ((((h.setCell hg v0).setCell hg v1).setCell hg v2).setCell hg v3).setCell hg v4
theorem five_bytes {w2 : World} {A : Option Addr} {n c : Nat} {xs : List UInt8} {g : Nat} {v0 v1 v2 v3 v4 : Value} (h : BytesAt w2 (.slice A n c) xs) (hg : ∀ b, (Value.slice A n c).ownBlock = some b → b ≠ g) :
    BytesAt (((((w2.setCell ⟨g, 0, none⟩ v0).setCell ⟨g, 1, none⟩ v1).setCell ⟨g, 2, none⟩ v2).setCell ⟨g, 3, none⟩ v3).setCell ⟨g, 4, none⟩ v4) (.slice A n c) xs :=
  h.keep (five_keep (bs := [g]) (Keeps.refl _ _) (.inl (by simp))) (fun b hb hm => hg b hb (List.mem_singleton.1 hm))

/-- How a value lies in a block of its own where nothing is said of it yet. -/
abbrev ber0 : Obj := .cells #[.int .u8 0, .int .u8 0, .bool false, .slice none 0 0, .slice none 0 0] 25
theorem ret_ber {fn : Func} {p : Tmp} {tmps : Array Value} {df : List Deferred} {g : Nat} {cs : Array Value} {fr : Nat × Nat} {w : World} {R : Ending → World → Prop} (h : fn.results = #[.cell p 25]) (hs : cs.size = 5) (hp : tmps.getD p undef = .pointer (some ⟨g, 0, none⟩)) (hg : w.heap[g]? = some (.cells cs 25 fr)) (hd : df = []) (hR : R (.returned (.agg cs)) w) : bodyPost Try.prog fn R Exit.ret ⟨tmps, df⟩ w := by
  subst hd
  exact bodyPost_ret (results_cell_row h _ _ g 25 cs fr _ hp hg Try.underlying25 rfl (by rw [hs]; kernel_rfl)) rfl hR

theorem holdb_is (num : Nat) (A : Option Addr) (la ca : Nat) (w : World) : Calls Try.prog 46 #[.int .u8 (num : Int), .slice A la ca] w fun e w' => e = .returned (.agg #[.int .u8 0, .int .u8 (num : Int), .bool false, .slice A la ca, .slice none 0 0]) ∧ Keeps [] w w' := by
  go_enter Try.func46, Try.ntmps46
  go_wp2_with fail
  exact ret_ber rfl rfl rfl (heap_new8 w _) rfl ⟨rfl, (Keeps.refl [] w).alloc _⟩

theorem int_is (n : Int) (w : World) (hn : -9223372036854775808 ≤ n ∧ n ≤ 9223372036854775807) : Calls Try.prog 20 #[.int .i64 n] w fun e w' => ∃ A c, e = .returned (.agg #[.int .u8 0, .int .u8 2, .bool false, .slice A (fewB n).length c, .slice none 0 0]) ∧ BytesAt w' (.slice A (fewB n).length c) (fewB n) ∧ Keeps [] w w' := by
  have HF := Lib.hid (fun X => few64_is n X hn)
  have HB := Lib.hid (fun X A la ca => holdb_is 2 A la ca X)
  go_enter Try.func20, Try.ntmps20
  go_wp2_with fail
  refine (HF.out _).mono ?_
  rintro e w1 ⟨A, c, rfl, ho, hk⟩
  have HO := Lib.hid (BytesAt.of_own ho)
  have HL := Lib.hid (show ∀ b, (Value.slice A (fewB n).length c).ownBlock = some b → b ≠ w.heap.size from fun b hb => by have := (ho.lt b hb).1; simp at this; omega)
  have HK := Lib.hid hk
  clear ho hk
  go_wp2_with fail
  refine (HB.out _ _ _ _).mono ?_
  rintro e w2 ⟨rfl, hk⟩
  have HK2 := Lib.hid ((((Keeps.refl [] w).alloc ber0).trans' HK.out).trans' hk)
  have HO2 := Lib.hid (HO.out.grow hk)
  have hrow : w2.heap[w.heap.size]? = some (.cells #[.int .u8 0, .int .u8 0, .bool false, .slice none 0 0, .slice none 0 0] 25 (0, 0)) := blk_keep (blk_keep (heap_new8 w _) HK.out (by simp)) hk (by simp)
  have HR := Lib.hid hrow
  obtain ⟨⟨c0, c1, c2, c3, c4⟩, ⟨f0, f1, f2, f3, f4⟩⟩ := five_facts hrow
  clear hrow hk
  go_wp2_with fail
  exact ret_ber rfl rfl rfl (five_set HR.out) rfl ⟨_, _, rfl, five_bytes HO2.out HL.out, five_keep HK2.out (.inr (Nat.le_refl _))⟩

theorem enum_is (n : Int) (w : World) (hn : -9223372036854775808 ≤ n ∧ n ≤ 9223372036854775807) : Calls Try.prog 21 #[.int .i64 n] w fun e w' => ∃ A c, e = .returned (.agg #[.int .u8 0, .int .u8 10, .bool false, .slice A (fewB n).length c, .slice none 0 0]) ∧ BytesAt w' (.slice A (fewB n).length c) (fewB n) ∧ Keeps [] w w' := by
  have HF := Lib.hid (fun X => few64_is n X hn)
  have HB := Lib.hid (fun X A la ca => holdb_is 10 A la ca X)
  go_enter Try.func21, Try.ntmps21
  go_wp2_with fail
  refine (HF.out _).mono ?_
  rintro e w1 ⟨A, c, rfl, ho, hk⟩
  have HO := Lib.hid (BytesAt.of_own ho)
  have HL := Lib.hid (show ∀ b, (Value.slice A (fewB n).length c).ownBlock = some b → b ≠ w.heap.size from fun b hb => by have := (ho.lt b hb).1; simp at this; omega)
  have HK := Lib.hid hk
  clear ho hk
  go_wp2_with fail
  refine (HB.out _ _ _ _).mono ?_
  rintro e w2 ⟨rfl, hk⟩
  have HK2 := Lib.hid ((((Keeps.refl [] w).alloc ber0).trans' HK.out).trans' hk)
  have HO2 := Lib.hid (HO.out.grow hk)
  have hrow : w2.heap[w.heap.size]? = some (.cells #[.int .u8 0, .int .u8 0, .bool false, .slice none 0 0, .slice none 0 0] 25 (0, 0)) := blk_keep (blk_keep (heap_new8 w _) HK.out (by simp)) hk (by simp)
  have HR := Lib.hid hrow
  obtain ⟨⟨c0, c1, c2, c3, c4⟩, ⟨f0, f1, f2, f3, f4⟩⟩ := five_facts hrow
  clear hrow hk
  go_wp2_with fail
  exact ret_ber rfl rfl rfl (five_set HR.out) rfl ⟨_, _, rfl, five_bytes HO2.out HL.out, five_keep HK2.out (.inr (Nat.le_refl _))⟩

theorem text_is (s : List UInt8) (w : World) (hs : s.length ≤ 9223372036854775807) : Calls Try.prog 28 #[.string ⟨s.toArray⟩] w fun e w' => ∃ A c, e = .returned (.agg #[.int .u8 0, .int .u8 4, .bool false, .slice A s.length c, .slice none 0 0]) ∧ BytesAt w' (.slice A s.length c) s ∧ Keeps [] w w' := by
  obtain ⟨C, O, hc, hb⟩ := conv8 s hs
  have HBY := Lib.hid hb
  have HB := Lib.hid (fun X A la ca => holdb_is 4 A la ca X)
  clear hb
  go_enter Try.func28, Try.ntmps28
  go_wp2_with fail
  refine (HB.out _ _ _ _).mono ?_
  rintro e w2 ⟨rfl, hk⟩
  have HK2 := Lib.hid (((((Keeps.refl [] w).alloc ber0).drew).alloc (O (w.alloc ber0))).trans' hk)
  have HO2 := Lib.hid ((HBY.out (w.alloc ber0)).grow hk)
  rw [show (w.alloc ber0).heap.size = w.heap.size + 1 by simp] at HO2
  have hrow : w2.heap[w.heap.size]? = some (.cells #[.int .u8 0, .int .u8 0, .bool false, .slice none 0 0, .slice none 0 0] 25 (0, 0)) := blk_keep (blk_keep (heap_new8 w _) (((Keeps.refl [] (w.alloc ber0)).drew).alloc (O (w.alloc ber0))) (by simp)) hk (by simp)
  have HR := Lib.hid hrow
  obtain ⟨⟨c0, c1, c2, c3, c4⟩, ⟨f0, f1, f2, f3, f4⟩⟩ := five_facts hrow
  clear hrow hk
  go_wp2_with fail
  exact ret_ber rfl rfl rfl (five_set HR.out) rfl ⟨_, _, rfl, five_bytes HO2.out (fun b hb => by simp [Value.ownBlock] at hb; omega), five_keep HK2.out (.inr (Nat.le_refl _))⟩

end Go.Proofs.Ytnengckecooohaa
/- ber: numbers off bytes. -/
namespace Go.Proofs.Ytnengckecooohaa
open Go.RowKit Go.Shelf
set_option linter.unusedVariables false
set_option linter.unusedSimpArgs false
set_option maxRecDepth 100000

theorem i64_or_low (y u : Int) (h1 : -9223372036854775808 ≤ y) (h2 : y ≤ 9223372036854775807) (h3 : y % 256 = 0) (h4 : 0 ≤ u) (h5 : u < 256) : bits .or .i64 y u = y + u := by
  obtain ⟨b, rfl⟩ := Int.eq_ofNat_of_zero_le h4
  show IntKind.i64.wrap ((BitVec.ofInt 64 y ||| BitVec.ofInt 64 (b : Int)).toNat : Int) = _
  obtain ⟨a, ha, hy⟩ : ∃ a : Nat, a < 18446744073709551616 ∧ (y = (a : Int) ∨ y = (a : Int) - 18446744073709551616) := by
    by_cases h : 0 ≤ y
    · exact ⟨y.toNat, by omega, .inl (by omega)⟩
    · exact ⟨(y + 18446744073709551616).toNat, by omega, .inr (by omega)⟩
  have e : BitVec.ofInt 64 y = BitVec.ofInt 64 (a : Int) := by
    rcases hy with hy | hy
    · rw [hy]
    · apply BitVec.eq_of_toInt_eq
      rw [BitVec.toInt_ofInt, BitVec.toInt_ofInt, hy]
      simp [Int.bmod_def]
  have hj : a ||| b = a + b := nat_join 8 a b (by omega) (by omega)
  have hlt : a ||| b < 2 ^ 64 := Nat.or_lt_two_pow (by omega) (by omega)
  rw [e, BitVec.toNat_or, ofInt_u64 a ha, ofInt_u64 b (by omega), hj]
  rw [hj] at hlt
  have hw : IntKind.i64.wrap ((a + b : Nat) : Int) = ((a : Int) + b + 9223372036854775808) % 18446744073709551616 - 9223372036854775808 := by
    simp only [IntKind.wrap, IntKind.bits, IntKind.signed]
    simp
    split <;> omega
  rw [hw]
  omega
theorem wrap64_256 (x : Int) : -9223372036854775808 ≤ wrap64 (x * 256) ∧ wrap64 (x * 256) ≤ 9223372036854775807 ∧ wrap64 (x * 256) % 256 = 0 := by
  unfold wrap64
  omega
/-- The number behind a, with more bytes. -/
def numZ : Int → List UInt8 → Int
  | a, [] => a
  | a, x :: r => numZ (wrap64 (a * 256) + (x.toNat : Int)) r

theorem num64_is (a : Int) (A : Option Addr) (n c : Nat) (xs : List UInt8) (w : World) (ha : -9223372036854775808 ≤ a ∧ a ≤ 9223372036854775807) (hl : xs.length = n) (hn : n ≤ 9223372036854775807) (hb : BytesAt w (.slice A n c) xs) :
    Calls Try.prog 48 #[.int .i64 a, .slice A n c] w fun e w' => e = .returned (.int .i64 (numZ a xs)) ∧ w = w' := by
  have HB := Lib.hid hb
  have HL := Lib.hid hl
  clear hb hl
  go_enter Try.func48, Try.ntmps48
  go_wp2_with fail
  go_loopw [0, 6, 9] (fun v u i wr => ∃ (j : Nat) (x : Int), v = .int .i64 x ∧ i = .int .i64 (j : Int) ∧ j ≤ n ∧ (-9223372036854775808 ≤ x ∧ x ≤ 9223372036854775807) ∧ Hid (numZ x (xs.drop j) = numZ a xs) ∧ wr = w) (fun _ _ i _ => n - (intOf i).toNat)
  case atStart => exact ⟨0, a, rfl, rfl, Nat.zero_le _, ha, rfl, rfl⟩
  case round =>
    obtain ⟨j, x, rfl, rfl, hj, hx, HI, rfl⟩ := hrel
    by_cases hlt : j < n
    · obtain ⟨b, o, rfl, hc⟩ := bytes_addr HB.out (by omega)
      obtain ⟨u, hu⟩ : ∃ u, xs[j]? = some u := ⟨_, List.getElem?_eq_getElem (by have := HL.out; omega)⟩
      have hcu := hc j u hu
      obtain ⟨z1, z2, z3⟩ := wrap64_256 x
      have hul : u.toNat < 256 := u.toNat_lt
      have hor : bits BinOp.or IntKind.i64 (wrap64 (x * 256)) (u.toNat : Int) = wrap64 (x * 256) + (u.toNat : Int) := i64_or_low _ _ z1 z2 z3 (by omega) (by omega)
      have hwu : wrap64 (u.toNat : Int) = (u.toNat : Int) := by unfold wrap64; omega
      have HN : Hid (numZ (wrap64 (x * 256) + (u.toNat : Int)) (xs.drop (j + 1)) = numZ a xs) := by
        have h := HI.out
        rw [List.drop_eq_getElem_cons (by have := HL.out; omega), show xs[j]'(by have := HL.out; omega) = u by rw [List.getElem?_eq_getElem (by have := HL.out; omega)] at hu; injection hu] at h
        exact h
      have hbound : -9223372036854775808 ≤ wrap64 (x * 256) + (u.toNat : Int) ∧ wrap64 (x * 256) + (u.toNat : Int) ≤ 9223372036854775807 := by omega
      have HB2 := Lib.hid hbound
      have HOR := Lib.hid hor
      clear hc hor hbound z1 z2 z3
      go_wp2_with fail
      first | rw [hwu, HOR.out] | rw [HOR.out]
      go_roundw
      case rel => exact ⟨j + 1, _, rfl, by go_num, by omega, HB2.out, HN, trivial⟩
      case measure => simp [intOf]; omega
    · obtain rfl : j = n := by omega
      have he := HI.out
      rw [List.drop_of_length_le (by have := HL.out; omega)] at he
      have HE := Lib.hid he
      clear he
      go_wp2_with fail
      go_ret
      exact ⟨by rw [← HE.out]; rfl, rfl⟩
end Go.Proofs.Ytnengckecooohaa
/- ber: IntOf, TruthOf. -/
namespace Go.Proofs.Ytnengckecooohaa
open Go.RowKit Go.Shelf
set_option linter.unusedVariables false
set_option linter.unusedSimpArgs false
set_option maxRecDepth 100000

theorem conv_bytes {w : World} {v : Value} {xs : List UInt8} (h : BytesAt w v xs) : (convert 22 9 v).run Try.prog w = .ok (.string ⟨xs.toArray⟩) w := by
  have h0 := h
  obtain ⟨A, c, rfl, h1, h2, h3⟩ := h
  rcases A with _ | a
  · have hx : xs = [] := by
      rcases Nat.eq_zero_or_pos xs.length with h | h
      · exact List.eq_nil_of_length_eq_zero h
      · obtain ⟨_, _, h, _⟩ := h3 h; cases h
    subst hx
    exact run_convert_bytes_nil w 22 5 Try.underlying22 Try.underlying5 _ _ 9 Try.underlying9
  · refine run_convert_bytes_back w 22 9 5 a c xs Try.underlying22 Try.underlying5 Try.underlying9 fun j hj => ?_
    exact h0.cells j _ (by simp [List.getElem?_eq_getElem hj, bv])

theorem equal_any (v u : Value) (xs ys : List UInt8) (w : World) (hv : BytesAt w v xs) (hu : BytesAt w u ys) :
    Calls Try.prog 49 #[v, u] w fun e w' => e = .returned (.bool (xs == ys)) ∧ w = w' := by
  have h1 := conv_bytes hv
  have h2 := conv_bytes hu
  obtain ⟨A, c, rfl, _⟩ := hv
  obtain ⟨B, d, rfl, _⟩ := hu
  go_enter Try.func49, Try.ntmps49
  go_wp2
  go_ret
  exact ⟨rfl, rfl⟩

attribute [local go_sem] Oper.semAt_some
theorem slice_from (A : Option Addr) (n c at_ : Nat) (xs : List UInt8) (hn : xs.length = n) (hnc : n ≤ c) (hcm : c ≤ 9223372036854775807) (ha : at_ ≤ n) (hA : 0 < n → ∃ b o, A = some ⟨b, o, none⟩) :
    ∃ B d, (∀ W, (Instr.slice 22 (.slice A n c) (some (.int .i64 (at_ : Int))) none none).run Try.prog W = .ok (.slice B (n - at_) d) W) ∧ ∀ W, BytesAt W (.slice A n c) xs → BytesAt W (.slice B (n - at_) d) (xs.drop at_) := by
  have hr : ∀ W, (Instr.slice 22 (.slice A n c) (some (.int .i64 (at_ : Int))) none none).run Try.prog W = .ok (.slice (if c = at_ then A else A.map (·.add at_)) (n - at_) (c - at_)) W := by
    intro W
    rw [run_slice_l W 22 A n c (by simp [Program.elem, Try.underlying22]) .i64 _ (by omega) (by omega)]
    rw [show Try.prog.elem 22 = 5 by simp [Program.elem, Try.underlying22], Try.sizeOf5]
    simp [Result.andThen, sliced]
  refine ⟨_, _, hr, fun W hb => ?_⟩
  obtain ⟨A', c', he, h1, h2, h3⟩ := hb
  injection he with e1 e2 e3
  subst e1 e3
  refine ⟨_, _, by rw [List.length_drop, hn], by rw [List.length_drop]; omega, by omega, fun hp => ?_⟩
  rw [List.length_drop] at hp
  obtain ⟨b, o, rfl, hc⟩ := h3 (by omega)
  refine ⟨b, o + at_, ?_, fun i u hu => ?_⟩
  · rw [if_neg (by omega)]
    simp [add_at]
  · rw [List.getElem?_drop] at hu
    have := hc (at_ + i) u hu
    rwa [← Nat.add_assoc] at this

theorem BytesAt.from {w : World} {b o n c : Nat} {xs : List UInt8} (h : BytesAt w (.slice (some ⟨b, o, none⟩) n c) xs) {k : Nat} (hk : k ≤ n) : BytesAt w (.slice (some ⟨b, o + k, none⟩) (n - k) (c - k)) (xs.drop k) := by
  obtain ⟨A', c', he, h1, h2, h3⟩ := h
  injection he with he1 he2 he3
  subst he1 he3
  refine ⟨some ⟨b, o + k, none⟩, c - k, by rw [List.length_drop, he2], by rw [List.length_drop]; omega, by omega, fun hp => ?_⟩
  rw [List.length_drop] at hp
  obtain ⟨b', o', hb, hc⟩ := h3 (by omega)
  injection hb with hb
  injection hb with hb1 hb2
  subst hb1 hb2
  refine ⟨b, o + k, rfl, fun i u hu => ?_⟩
  rw [List.getElem?_drop] at hu
  have := hc (k + i) u hu
  rwa [← Nat.add_assoc] at this

theorem BytesAt.part {w : World} {b o n c : Nat} {xs : List UInt8} (h : BytesAt w (.slice (some ⟨b, o, none⟩) n c) xs) {i m : Nat} (hk : i + m ≤ n) (hn : xs.length = n) : BytesAt w (.slice (some ⟨b, o + i, none⟩) m (c - i)) ((xs.drop i).take m) := by
  obtain ⟨A', c', he, h1, h2, h3⟩ := h
  injection he with he1 he2 he3
  subst he1 he3
  have hl : ((xs.drop i).take m).length = m := by rw [List.length_take, List.length_drop]; omega
  refine ⟨some ⟨b, o + i, none⟩, c - i, by rw [hl], by omega, by omega, fun hp => ?_⟩
  obtain ⟨b', o', hb, hc⟩ := h3 (by omega)
  injection hb with hb
  injection hb with hb1 hb2
  subst hb1 hb2
  refine ⟨b, o + i, rfl, fun j u hu => ?_⟩
  rw [List.getElem?_take] at hu
  split at hu
  · rw [List.getElem?_drop] at hu
    have := hc (i + j) u hu
    rwa [← Nat.add_assoc] at this
  · cases hu

/-- The number of bytes, two's complement. -/
def sgnB : List UInt8 → Int
  | [] => 0
  | x :: r => numZ (if x.toNat < 128 then (x.toNat : Int) else (x.toNat : Int) - 256) r
def isFew (xs : List UInt8) : Bool := decide (1 ≤ xs.length ∧ xs.length ≤ 8) && (xs == fewB (sgnB xs))

theorem eq255 (x : UInt8) : ((x.toNat : Int) == 255) = (x == 255) := by
  rw [Bool.eq_iff_iff, beq_iff_eq, beq_iff_eq]
  constructor
  · intro h; apply UInt8.toNat_inj.1; show x.toNat = 255; omega
  · intro h; subst h; rfl
theorem eq0 (x : UInt8) : ((x.toNat : Int) == 0) = (x == 0) := by
  rw [Bool.eq_iff_iff, beq_iff_eq, beq_iff_eq]
  constructor
  · intro h; apply UInt8.toNat_inj.1; show x.toNat = 0; omega
  · intro h; subst h; rfl
/-- What TruthOf answers. -/
def truthR (k : Bool) (xs : List UInt8) : Value := .tuple #[.bool (!k && (xs == [255])), .bool (!k && (xs == [255] || xs == [0]))]
theorem truthR_len {xs : List UInt8} (h : xs.length ≠ 1) : truthR false xs = .tuple #[.bool false, .bool false] := by
  have h1 : (xs == [255]) = false := by
    rw [beq_eq_false_iff_ne]; rintro rfl; exact h rfl
  have h2 : (xs == [0]) = false := by
    rw [beq_eq_false_iff_ne]; rintro rfl; exact h rfl
  unfold truthR
  rw [h1, h2]
  rfl
theorem truthR_one (x : UInt8) : truthR false [x] = .tuple #[.bool ((x.toNat : Int) == 255), .bool ((x.toNat : Int) == 255 || (x.toNat : Int) == 0)] := by
  rw [eq255, eq0]
  unfold truthR
  simp

theorem truthof_is (c n : Nat) (k : Bool) (A B : Option Addr) (la ca lb cb : Nat) (xs : List UInt8) (w : World) (hl : xs.length = la) (hb : BytesAt w (.slice A la ca) xs) :
    Calls Try.prog 24 #[.agg #[.int .u8 (c : Int), .int .u8 (n : Int), .bool k, .slice A la ca, .slice B lb cb]] w fun e w' => e = .returned (truthR k xs) ∧ Keeps [] w w' := by
  have HK : Hid (Keeps [] w (w.alloc (.cells #[.int .u8 (c : Int), .int .u8 (n : Int), .bool k, .slice A la ca, .slice B lb cb] 25))) := (Keeps.refl [] w).alloc _
  cases k
  · by_cases h1 : la = 1
    · subst h1
      obtain ⟨b, o, rfl, hc⟩ := bytes_addr hb (by omega)
      match xs, hl with
      | [x], _ =>
        have c0 := (HK.out.cell (lt_of_cell (hc 0 x rfl)) (by simp)).trans (hc 0 x rfl)
        rw [Nat.add_zero] at c0
        rw [truthR_one]
        clear hc hb
        go_enter Try.func24, Try.ntmps24
        go_wp2_with fail
        all_goals go_ret2
        all_goals refine ⟨?_, HK.out⟩
        all_goals rename_i hx
        all_goals simp [hx]
    · rw [truthR_len (by omega)]
      go_enter Try.func24, Try.ntmps24
      go_wp2_with fail
      go_ret2
      exact ⟨rfl, HK.out⟩
  · go_enter Try.func24, Try.ntmps24
    go_wp2_with fail
    go_ret2
    exact ⟨rfl, HK.out⟩

/-- What IntOf answers. -/
def intR (k : Bool) (xs : List UInt8) : Value := if !k && isFew xs then .tuple #[.int .i64 (sgnB xs), .bool true] else .tuple #[.int .i64 0, .bool false]

theorem sgn_head (x : UInt8) : IntKind.i64.wrap (IntKind.i8.wrap (x.toNat : Int)) = if x.toNat < 128 then (x.toNat : Int) else (x.toNat : Int) - 256 := by
  have hx : x.toNat < 256 := x.toNat_lt
  have e0 : IntKind.i8.wrap (x.toNat : Int) = (if (x.toNat : Int) % 256 ≥ 128 then (x.toNat : Int) % 256 - 256 else (x.toNat : Int) % 256) := by simp [IntKind.wrap, IntKind.bits, IntKind.signed]
  rw [IntWalk.i64_in _ (by rw [e0]; split <;> omega), e0]
  split <;> split <;> omega
theorem numZ_in : ∀ (xs : List UInt8) (a : Int), -9223372036854775808 ≤ a ∧ a ≤ 9223372036854775807 → -9223372036854775808 ≤ numZ a xs ∧ numZ a xs ≤ 9223372036854775807
  | [], a, h => h
  | x :: r, a, h => by
    obtain ⟨z1, z2, z3⟩ := wrap64_256 a
    have hul : x.toNat < 256 := x.toNat_lt
    exact numZ_in r _ (by omega)

theorem intof_is (c n : Nat) (k : Bool) (A B : Option Addr) (la ca lb cb : Nat) (xs : List UInt8) (w : World) (hl : xs.length = la) (hb : BytesAt w (.slice A la ca) xs) :
    Calls Try.prog 22 #[.agg #[.int .u8 (c : Int), .int .u8 (n : Int), .bool k, .slice A la ca, .slice B lb cb]] w fun e w' => e = .returned (intR k xs) ∧ Keeps [] w w' := by
  have HK : Hid (Keeps [] w (w.alloc (.cells #[.int .u8 (c : Int), .int .u8 (n : Int), .bool k, .slice A la ca, .slice B lb cb] 25))) := (Keeps.refl [] w).alloc _
  cases k
  · by_cases h1 : la < 1
    · have e : intR false xs = .tuple #[.int .i64 0, .bool false] := by
        have h2 : isFew xs = false := by unfold isFew; rw [decide_eq_false (by omega)]; rfl
        unfold intR; rw [h2]; rfl
      rw [e]
      go_enter Try.func22, Try.ntmps22
      go_wp2_with fail
      go_ret2
      exact ⟨rfl, HK.out⟩
    by_cases h8 : 8 < la
    · have e : intR false xs = .tuple #[.int .i64 0, .bool false] := by
        have h2 : isFew xs = false := by unfold isFew; rw [decide_eq_false (by omega)]; rfl
        unfold intR; rw [h2]; rfl
      rw [e]
      go_enter Try.func22, Try.ntmps22
      go_wp2_with fail
      go_ret2
      exact ⟨rfl, HK.out⟩
    obtain ⟨x, r, rfl⟩ : ∃ x r, xs = x :: r := by
      cases xs with
      | nil => simp at hl; omega
      | cons x r => exact ⟨x, r, rfl⟩
    obtain ⟨b, o, rfl, hc⟩ := bytes_addr hb (by omega)
    have hcap : la ≤ ca := by obtain ⟨A', c', he, h2, _⟩ := hb; injection he with _ h3 h4; omega
    have hrl : r.length = la - 1 := by simp at hl; omega
    obtain ⟨W1, hW1⟩ : ∃ W1, w.alloc (.cells #[.int .u8 (c : Int), .int .u8 (n : Int), .bool false, .slice (some ⟨b, o, none⟩) la ca, .slice B lb cb] 25) = W1 := ⟨_, rfl⟩
    rw [hW1] at HK
    have c0 := (HK.out.cell (lt_of_cell (hc 0 x rfl)) (by simp)).trans (hc 0 x rfl)
    rw [Nat.add_zero] at c0
    have hr1 : W1.heap[w.heap.size]? = some (.cells #[.int .u8 (c : Int), .int .u8 (n : Int), .bool false, .slice (some ⟨b, o, none⟩) la ca, .slice B lb cb] 25 (0, 0)) := by
      rw [← hW1]
      exact heap_new8 w _
    obtain ⟨⟨g0, g1, g2, g3, g4⟩, _⟩ := five_facts hr1
    clear hr1 hc
    obtain ⟨B', d', hsl, hsb⟩ := slice_from (some ⟨b, o, none⟩) la ca 1 (x :: r) hl hcap (by obtain ⟨A', c', he, h2, h3⟩ := hb; injection he with _ _ h4; unfold maxLen at h3; omega) (by omega) (fun _ => ⟨_, _, rfl⟩)
    have hsl : ∀ W, (Instr.slice 22 (.slice (some ⟨b, o, none⟩) la ca) (some (.int .i64 1)) none none).run Try.prog W = .ok (.slice B' (la - 1) d') W := hsl
    have hx : x.toNat < 256 := x.toNat_lt
    have hw : -9223372036854775808 ≤ IntKind.i64.wrap (IntKind.i8.wrap (x.toNat : Int)) ∧ IntKind.i64.wrap (IntKind.i8.wrap (x.toNat : Int)) ≤ 9223372036854775807 := by rw [sgn_head]; split <;> omega
    have HN := Lib.hid (fun X (hk : Keeps [] W1 X) => num64_is (IntKind.i64.wrap (IntKind.i8.wrap (x.toNat : Int))) B' (la - 1) d' r X hw hrl (by omega) (hsb X (hb.grow (HK.out.trans' hk))))
    have HB := Lib.hid (fun X (hk : Keeps [] W1 X) => hb.grow (HK.out.trans' hk))
    have HC3 := Lib.hid (fun X (hk : Keeps [] W1 X) => (hk.cell (lt_of_cell g3) (by simp)).trans g3)
    have HZ := Lib.hid (numZ_in r _ hw)
    have HLA := Lib.hid hl
    have mixed : Try.prog.follows .mixedOrders = true := by kernel_rfl
    have hle : ¬ (la : Int) < 1 := by omega
    have hl0 : 0 < la := by omega
    clear hb hsb hw hx hcap hrl hl g0 g1 g4
    go_enter Try.func22, Try.ntmps22
    go_wp2_with fail
    go_region_held3 (fun w' => w'.cell? ⟨w.heap.size, 3, none⟩ = some (.slice (some ⟨b, o, none⟩) la ca) ∧ w'.cell? ⟨b, o, none⟩ = some (.int .u8 (x.toNat : Int))) (first | exact ⟨g3, c0⟩ | go_keep) (first | (go_at_call 48; refine (HN.out _ (by repeat (first | exact Keeps.refl [] _ | refine Keeps.drew ?_))).mono ?_; rintro e w' ⟨rfl, rfl⟩))
    have y0 := HC3.out W1.drew (Keeps.refl [] _).drew
    go_wp2_with fail
    go_region_held3 (fun w' => w'.cell? ⟨w.heap.size, 3, none⟩ = some (.slice (some ⟨b, o, none⟩) la ca)) (first | exact y0 | exact y1 | go_keep) (first | (go_at_call 47; refine (few64_is _ _ HZ.out).mono ?_; rintro e w2 ⟨A2, c2, rfl, ho2, hk2⟩; have HO2 := Lib.hid (BytesAt.of_own ho2); have kk := Keeps.trans' (a := W1) (bs := []) (by repeat (first | exact Keeps.refl [] _ | refine Keeps.drew ?_)) hk2; have HKK := Lib.hid kk; have y1 := HC3.out w2 kk; clear ho2 hk2 kk) | (go_at_call 49; refine (equal_any _ _ (x :: r) (fewB (numZ (IntKind.i64.wrap (IntKind.i8.wrap (x.toNat : Int))) r)) _ (HB.out _ (by repeat (first | exact HKK.out | exact Keeps.refl [] _ | refine Keeps.drew ?_))) (HO2.out.grow (by repeat (first | exact Keeps.refl [] _ | refine Keeps.drew ?_)))).mono ?_; rintro e w3 ⟨rfl, rfl⟩))
    all_goals have HKW := Lib.hid (HK.out.trans' HKK.out)
    all_goals have HIF : Hid (isFew (x :: r) = (x :: r == fewB (numZ (IntKind.i64.wrap (IntKind.i8.wrap (x.toNat : Int))) r))) := (by
      show _ = _
      unfold isFew
      rw [decide_eq_true (by have := HLA.out; omega), Bool.true_and]
      unfold sgnB
      rw [sgn_head])
    all_goals have HSG : Hid (sgnB (x :: r) = numZ (IntKind.i64.wrap (IntKind.i8.wrap (x.toNat : Int))) r) := (by
      show _ = _
      unfold sgnB
      rw [sgn_head])
    all_goals clear y1 HO2
    all_goals go_wp2_with fail
    all_goals go_ret2
    all_goals refine ⟨?_, HKW.out⟩
    all_goals unfold intR
    all_goals rw [HIF.out, HSG.out]
    all_goals rename_i hx
    all_goals simp at hx
    all_goals simp [hx]
  · go_enter Try.func22, Try.ntmps22
    go_wp2_with fail
    go_ret2
    exact ⟨rfl, HK.out⟩
end Go.Proofs.Ytnengckecooohaa
/- ber: values as trees, and how they lie in memory. -/
namespace Go.Proofs.Ytnengckecooohaa
open Go.RowKit Go.Shelf
set_option linter.unusedVariables false
set_option linter.unusedSimpArgs false
set_option maxRecDepth 100000

/-- A value: its Class, Num, whether it is Cons, its Bytes, its Items. -/
inductive BV where
  | mk (c n : Nat) (k : Bool) (b : List UInt8) (l : List BV)

def BV.c : BV → Nat | .mk c _ _ _ _ => c
def BV.n : BV → Nat | .mk _ n _ _ _ => n
def BV.k : BV → Bool | .mk _ _ k _ _ => k
def BV.b : BV → List UInt8 | .mk _ _ _ b _ => b
def BV.l : BV → List BV | .mk _ _ _ _ l => l

/-- What stands in a value's own five cells. -/
structure BH where
  c : Nat
  n : Nat
  k : Bool
  A : Option Addr
  la : Nat
  ca : Nat
  B : Option Addr
  lb : Nat
  cb : Nat
def BH.list (h : BH) : List Value := [.int .u8 (h.c : Int), .int .u8 (h.n : Int), .bool h.k, .slice h.A h.la h.ca, .slice h.B h.lb h.cb]
def BH.val (h : BH) : Value := .agg #[.int .u8 (h.c : Int), .int .u8 (h.n : Int), .bool h.k, .slice h.A h.la h.ca, .slice h.B h.lb h.cb]

mutual
/-- Five cells, and what they point at, are a value. -/
def BerAt (w : World) : BV → BH → Prop
  | .mk c n k b l, h => h.c = c ∧ h.n = n ∧ h.k = k ∧ c < 256 ∧ n < 256 ∧ b.length = h.la ∧ BytesAt w (.slice h.A h.la h.ca) b ∧ l.length = h.lb ∧ h.lb ≤ h.cb ∧ h.cb ≤ 9223372036854775807 ∧ ItemsAt w h.B 0 l
/-- A row's values, from the i'th on. -/
def ItemsAt (w : World) (B : Option Addr) : Nat → List BV → Prop
  | _, [] => True
  | i, t :: r => (∃ b o h, B = some ⟨b, o, none⟩ ∧ (∀ j u, (BH.list h)[j]? = some u → w.cell? ⟨b, o + i * 5 + j, none⟩ = some u) ∧ BerAt w t h) ∧ ItemsAt w B (i + 1) r
end

mutual
theorem BerAt.grow {w w' : World} (hk : Keeps [] w w') : ∀ (t : BV) (h : BH), BerAt w t h → BerAt w' t h
  | .mk c n k b l, h, ⟨h1, h2, h3, h4, h5, h6, h7, h8, h9, h10, h11⟩ => ⟨h1, h2, h3, h4, h5, h6, h7.grow hk, h8, h9, h10, ItemsAt.grow hk h.B 0 l h11⟩
theorem ItemsAt.grow {w w' : World} (hk : Keeps [] w w') (B : Option Addr) : ∀ (i : Nat) (l : List BV), ItemsAt w B i l → ItemsAt w' B i l
  | _, [], _ => trivial
  | i, t :: r, ⟨⟨b, o, h, h1, h2, h3⟩, h4⟩ => ⟨⟨b, o, h, h1, fun j u hu => (hk.cell (lt_of_cell (h2 j u hu)) (by simp)).trans (h2 j u hu), BerAt.grow hk t h h3⟩, ItemsAt.grow hk B (i + 1) r h4⟩
end

theorem ItemsAt.at_ {w : World} {B : Option Addr} : ∀ {i : Nat} {l : List BV}, ItemsAt w B i l → ∀ (j : Nat) (t : BV), l[j]? = some t → ∃ b o h, B = some ⟨b, o, none⟩ ∧ (∀ q u, (BH.list h)[q]? = some u → w.cell? ⟨b, o + (i + j) * 5 + q, none⟩ = some u) ∧ BerAt w t h
  | _, [], _, j, t, h => by simp at h
  | i, x :: r, ⟨h1, h2⟩, 0, t, h => by
    simp at h
    subst h
    exact h1
  | i, x :: r, ⟨h1, h2⟩, j + 1, t, h => by
    have := ItemsAt.at_ h2 j t (by simpa using h)
    rwa [show i + 1 + j = i + (j + 1) by omega] at this

/-- Induction over a tree. -/
theorem BV.ind {P : BV → Prop} (h : ∀ c n k b l, (∀ t ∈ l, P t) → P (.mk c n k b l)) : ∀ t, P t := by
  intro t
  induction t using BV.rec (motive_2 := fun l => ∀ t ∈ l, P t) with
  | mk c n k b l ih => exact h c n k b l ih
  | nil => rename_i ht; cases ht
  | cons x r h1 h2 =>
    rename_i t ht
    rcases List.mem_cons.1 ht with ht | ht
    · rw [ht]; exact h1
    · exact h2 t ht

theorem five_at {w : World} {b o : Nat} {h : BH} (hc : ∀ q u, (BH.list h)[q]? = some u → w.cell? ⟨b, o + q, none⟩ = some u) :
    w.cell? ⟨b, o, none⟩ = some (.int .u8 (h.c : Int)) ∧ w.cell? ⟨b, o + 1, none⟩ = some (.int .u8 (h.n : Int)) ∧ w.cell? ⟨b, o + 2, none⟩ = some (.bool h.k) ∧ w.cell? ⟨b, o + 3, none⟩ = some (.slice h.A h.la h.ca) ∧ w.cell? ⟨b, o + 4, none⟩ = some (.slice h.B h.lb h.cb) :=
  ⟨hc 0 _ rfl, hc 1 _ rfl, hc 2 _ rfl, hc 3 _ rfl, hc 4 _ rfl⟩

/-- A value without Items. -/
theorem BerAt.flat {w : World} {c n : Nat} {k : Bool} {A : Option Addr} {la ca : Nat} {xs : List UInt8} (hc : c < 256) (hn : n < 256) (hl : xs.length = la) (hb : BytesAt w (.slice A la ca) xs) : BerAt w (.mk c n k xs []) ⟨c, n, k, A, la, ca, none, 0, 0⟩ :=
  ⟨rfl, rfl, rfl, hc, hn, hl, hb, rfl, Nat.le_refl _, Nat.zero_le _, trivial⟩

/-- mayStand, as a condition. -/
def stands : BV → Bool
  | .mk c n k b l => decide (c ≤ 3) && (decide (n < 31) && decide ((if k then b.length else l.length) = 0))

theorem maystand_is (t : BV) (h : BH) (w : World) (ht : BerAt w t h) : Calls Try.prog 52 #[h.val] w fun e w' => e = .returned (.bool (stands t)) ∧ Keeps [] w w' := by
  obtain ⟨c, n, k, b, l⟩ := t
  obtain ⟨rfl, rfl, rfl, h4, h5, h6, h7, h8, _⟩ := ht
  obtain ⟨c, n, k, A, la, ca, B, lb, cb⟩ := h
  have HS : Hid (stands (.mk c n k b l) = (decide (c ≤ 3) && (decide (n < 31) && decide ((if k then la else lb) = 0)))) := by
    have h6' : b.length = la := h6
    have h8' : l.length = lb := h8
    show _ = _
    rw [← h6', ← h8']
    rfl
  have HK : Hid (Keeps [] w (w.alloc (.cells #[.int .u8 (c : Int), .int .u8 (n : Int), .bool k, .slice A la ca, .slice B lb cb] 25))) := (Keeps.refl [] w).alloc _
  clear h6 h7 h8 h4 h5
  unfold BH.val
  rw [HS.out]
  cases k
  · go_enter Try.func52, Try.ntmps52
    go_wp2_with fail
    all_goals go_ret
    all_goals refine ⟨?_, HK.out⟩
    all_goals simp_all
    all_goals first | (intros; omega) | (rw [Bool.eq_iff_iff]; simp; omega) | (rw [Bool.eq_iff_iff]; simp; constructor <;> intro hh <;> omega)
  · go_enter Try.func52, Try.ntmps52
    go_wp2_with fail
    all_goals go_ret
    all_goals refine ⟨?_, HK.out⟩
    all_goals simp_all
    all_goals first | (intros; omega) | (rw [Bool.eq_iff_iff]; simp; omega) | (rw [Bool.eq_iff_iff]; simp; constructor <;> intro hh <;> omega)

end Go.Proofs.Ytnengckecooohaa
