
/- ber: common values that hold bytes. -/
import Derived.Test.YtbfebljahjmjfaaGreatDoorE1
import Derived.Laws.IdiomStrings
namespace Go.Proofs.YtbfebljahjmjfaaGreatDoor
open Go.RowKit Go.Shelf
set_option linter.unusedVariables false
set_option linter.unusedSimpArgs false
set_option maxRecDepth 100000

theorem u8int_small (num : Nat) (h : num < 256) : IntKind.wrap .u8 (num : Int) = (num : Int) := by
  have e : IntKind.wrap .u8 (num : Int) = (num : Int) % 256 := by simp [IntKind.wrap, IntKind.bits, IntKind.signed]
  rw [e]
  omega
theorem own_info8 {w : World} {base : Nat} {A : Option Addr} {c : Nat} {xs : List UInt8} (h : w.ownsRow base 5 1 (.slice A xs.length c) xs.length (xs.map bv)) : BytesAt w (.slice A xs.length c) xs := BytesAt.of_own h

theorem heap_new8 (w : World) (o : Obj) : (w.alloc o).heap[w.heap.size]? = some o := by
  show (w.heap.push o)[w.heap.size]? = _
  simp
/-- A text as bytes: room and cells left open. -/
theorem conv8 (k : List UInt8) (hk : k.length ≤ 9223372036854775807) : ∃ (C : World → Nat) (O : World → Obj), (∀ W, (convert 9 37 (.string ⟨k.toArray⟩)).run Tryz.prog W = .ok (.slice (some ⟨W.heap.size, 0, none⟩) k.length (C W)) (W.drew.alloc (O W))) ∧ ∀ (W : World), BytesAt (W.drew.alloc (O W)) (.slice (some ⟨W.heap.size, 0, none⟩) k.length (C W)) k := by
  refine ⟨fun W => grownCap W k.length 0 5, fun W => .cells (bytesRow ⟨k.toArray⟩ (grownCap W k.length 0 5)) 5 ((bytesRow ⟨k.toArray⟩ (grownCap W k.length 0 5)).size, (bytesRow ⟨k.toArray⟩ (grownCap W k.length 0 5)).size + 1), fun W => ?_, fun W => ?_⟩
  · exact run_bytes_of_string W 9 37 5 ⟨k.toArray⟩ Tryz.underlying9 Tryz.underlying37 Tryz.underlying5
  · refine ⟨_, grownCap W k.length 0 5, rfl, grownCap_ge W _ _ _, grownCap_le_maxLen W _ _ _ (by unfold maxLen; omega), fun _ => ⟨W.heap.size, 0, rfl, fun i u hu => ?_⟩⟩
    have hi : i < k.length := (List.getElem?_eq_some_iff.1 hu).1
    rw [Nat.zero_add]
    unfold World.cell?
    have e := heap_new8 W.drew (.cells (bytesRow ⟨k.toArray⟩ (grownCap W k.length 0 5)) 5 ((bytesRow ⟨k.toArray⟩ (grownCap W k.length 0 5)).size, (bytesRow ⟨k.toArray⟩ (grownCap W k.length 0 5)).size + 1))
    rw [show W.drew.heap.size = W.heap.size from rfl] at e
    rw [e]
    simp only [bytesRow, List.map_toArray]
    rw [Array.getElem?_append_left (by simpa using hi)]
    simp [hu, bv]

theorem five_set {w : World} {g : Nat} {a b c d e v0 v1 v2 v3 v4 : Value} {t : TypeId} (h : w.heap[g]? = some (.cells #[a, b, c, d, e] t (0, 0))) :
    (((((w.setCell ⟨g, 0, none⟩ v0).setCell ⟨g, 1, none⟩ v1).setCell ⟨g, 2, none⟩ v2).setCell ⟨g, 3, none⟩ v3).setCell ⟨g, 4, none⟩ v4).heap[g]? = some (.cells #[v0, v1, v2, v3, v4] t (0, 0)) :=
  heap_setCell_same _ g 4 _ t v4 (heap_setCell_same _ g 3 _ t v3 (heap_setCell_same _ g 2 _ t v2 (heap_setCell_same _ g 1 _ t v1 (heap_setCell_same w g 0 _ t v0 h))))
theorem five_keep {w w2 : World} {bs : List Nat} {g : Nat} {v0 v1 v2 v3 v4 : Value} (h : Keeps bs w w2) (hg : g ∈ bs ∨ w.heap.size ≤ g) :
    Keeps bs w (((((w2.setCell ⟨g, 0, none⟩ v0).setCell ⟨g, 1, none⟩ v1).setCell ⟨g, 2, none⟩ v2).setCell ⟨g, 3, none⟩ v3).setCell ⟨g, 4, none⟩ v4) :=
  ((((h.setCell hg v0).setCell hg v1).setCell hg v2).setCell hg v3).setCell hg v4
theorem five_bytes {w2 : World} {A : Option Addr} {n c : Nat} {xs : List UInt8} {g : Nat} {v0 v1 v2 v3 v4 : Value} (h : BytesAt w2 (.slice A n c) xs) (hg : ∀ b, (Value.slice A n c).ownBlock = some b → b ≠ g) :
    BytesAt (((((w2.setCell ⟨g, 0, none⟩ v0).setCell ⟨g, 1, none⟩ v1).setCell ⟨g, 2, none⟩ v2).setCell ⟨g, 3, none⟩ v3).setCell ⟨g, 4, none⟩ v4) (.slice A n c) xs :=
  h.keep (five_keep (bs := [g]) (Keeps.refl _ _) (.inl (by simp))) (fun b hb hm => hg b hb (List.mem_singleton.1 hm))

/-- How a value lies in a block of its own where nothing is said of it yet. -/
abbrev ber0 : Obj := .cells #[.int .u8 0, .int .u8 0, .bool false, .slice none 0 0, .slice none 0 0] 40
theorem ret_ber {fn : Func} {p : Tmp} {tmps : Array Value} {df : List Deferred} {g : Nat} {cs : Array Value} {fr : Nat × Nat} {w : World} {R : Ending → World → Prop} (h : fn.results = #[.cell p 40]) (hs : cs.size = 5) (hp : tmps.getD p undef = .pointer (some ⟨g, 0, none⟩)) (hg : w.heap[g]? = some (.cells cs 40 fr)) (hd : df = []) (hR : R (.returned (.agg cs)) w) : bodyPost Tryz.prog fn R Exit.ret ⟨tmps, df⟩ w := by
  subst hd
  exact bodyPost_ret (results_cell_row h _ _ g 40 cs fr _ hp hg Tryz.underlying40 rfl (by rw [hs]; kernel_rfl)) rfl hR

theorem holdb_is (num : Nat) (A : Option Addr) (la ca : Nat) (w : World) : Calls Tryz.prog 173 #[.int .u8 (num : Int), .slice A la ca] w fun e w' => e = .returned (.agg #[.int .u8 0, .int .u8 (num : Int), .bool false, .slice A la ca, .slice none 0 0]) ∧ Keeps [] w w' := by
  go_enter Tryz.func173, Tryz.ntmps173
  go_wp2_with fail
  exact ret_ber rfl rfl rfl (heap_new8 w _) rfl ⟨rfl, (Keeps.refl [] w).alloc _⟩

theorem int_is (n : Int) (w : World) (hn : -9223372036854775808 ≤ n ∧ n ≤ 9223372036854775807) : Calls Tryz.prog 101 #[.int .i64 n] w fun e w' => ∃ A c, e = .returned (.agg #[.int .u8 0, .int .u8 2, .bool false, .slice A (fewB n).length c, .slice none 0 0]) ∧ BytesAt w' (.slice A (fewB n).length c) (fewB n) ∧ Keeps [] w w' := by
  have HF := Lib.hid (fun X => few64_is n X hn)
  have HB := Lib.hid (fun X A la ca => holdb_is 2 A la ca X)
  go_enter Tryz.func101, Tryz.ntmps101
  go_wp2_with fail
  refine (HF.out _).mono ?_
  rintro e w1 ⟨A, c, rfl, ho, hk⟩
  have HO := Lib.hid (BytesAt.of_own ho)
  have HL := Lib.hid (show ∀ b, (Value.slice A (fewB n).length c).ownBlock = some b → b ≠ w.heap.size from fun b hb => by have := (ho.lt b hb).1; simp at this; omega)
  have HK := Lib.hid hk
  clear ho hk
  go_wp2_with fail
  refine (HB.out _ _ _ _).mono ?_
  rintro e w2 ⟨rfl, hk⟩
  have HK2 := Lib.hid ((((Keeps.refl [] w).alloc ber0).trans' HK.out).trans' hk)
  have HO2 := Lib.hid (HO.out.grow hk)
  have hrow : w2.heap[w.heap.size]? = some (.cells #[.int .u8 0, .int .u8 0, .bool false, .slice none 0 0, .slice none 0 0] 40 (0, 0)) := blk_keep (blk_keep (heap_new8 w _) HK.out (by simp)) hk (by simp)
  have HR := Lib.hid hrow
  obtain ⟨⟨c0, c1, c2, c3, c4⟩, ⟨f0, f1, f2, f3, f4⟩⟩ := five_facts hrow
  clear hrow hk
  go_wp2_with fail
  exact ret_ber rfl rfl rfl (five_set HR.out) rfl ⟨_, _, rfl, five_bytes HO2.out HL.out, five_keep HK2.out (.inr (Nat.le_refl _))⟩

theorem enum_is (n : Int) (w : World) (hn : -9223372036854775808 ≤ n ∧ n ≤ 9223372036854775807) : Calls Tryz.prog 228 #[.int .i64 n] w fun e w' => ∃ A c, e = .returned (.agg #[.int .u8 0, .int .u8 10, .bool false, .slice A (fewB n).length c, .slice none 0 0]) ∧ BytesAt w' (.slice A (fewB n).length c) (fewB n) ∧ Keeps [] w w' := by
  have HF := Lib.hid (fun X => few64_is n X hn)
  have HB := Lib.hid (fun X A la ca => holdb_is 10 A la ca X)
  go_enter Tryz.func228, Tryz.ntmps228
  go_wp2_with fail
  refine (HF.out _).mono ?_
  rintro e w1 ⟨A, c, rfl, ho, hk⟩
  have HO := Lib.hid (BytesAt.of_own ho)
  have HL := Lib.hid (show ∀ b, (Value.slice A (fewB n).length c).ownBlock = some b → b ≠ w.heap.size from fun b hb => by have := (ho.lt b hb).1; simp at this; omega)
  have HK := Lib.hid hk
  clear ho hk
  go_wp2_with fail
  refine (HB.out _ _ _ _).mono ?_
  rintro e w2 ⟨rfl, hk⟩
  have HK2 := Lib.hid ((((Keeps.refl [] w).alloc ber0).trans' HK.out).trans' hk)
  have HO2 := Lib.hid (HO.out.grow hk)
  have hrow : w2.heap[w.heap.size]? = some (.cells #[.int .u8 0, .int .u8 0, .bool false, .slice none 0 0, .slice none 0 0] 40 (0, 0)) := blk_keep (blk_keep (heap_new8 w _) HK.out (by simp)) hk (by simp)
  have HR := Lib.hid hrow
  obtain ⟨⟨c0, c1, c2, c3, c4⟩, ⟨f0, f1, f2, f3, f4⟩⟩ := five_facts hrow
  clear hrow hk
  go_wp2_with fail
  exact ret_ber rfl rfl rfl (five_set HR.out) rfl ⟨_, _, rfl, five_bytes HO2.out HL.out, five_keep HK2.out (.inr (Nat.le_refl _))⟩

theorem text_is (s : List UInt8) (w : World) (hs : s.length ≤ 9223372036854775807) : Calls Tryz.prog 210 #[.string ⟨s.toArray⟩] w fun e w' => ∃ A c, e = .returned (.agg #[.int .u8 0, .int .u8 4, .bool false, .slice A s.length c, .slice none 0 0]) ∧ BytesAt w' (.slice A s.length c) s ∧ Keeps [] w w' := by
  obtain ⟨C, O, hc, hb⟩ := conv8 s hs
  have HBY := Lib.hid hb
  have HB := Lib.hid (fun X A la ca => holdb_is 4 A la ca X)
  clear hb
  go_enter Tryz.func210, Tryz.ntmps210
  go_wp2_with fail
  refine (HB.out _ _ _ _).mono ?_
  rintro e w2 ⟨rfl, hk⟩
  have HK2 := Lib.hid (((((Keeps.refl [] w).alloc ber0).drew).alloc (O (w.alloc ber0))).trans' hk)
  have HO2 := Lib.hid ((HBY.out (w.alloc ber0)).grow hk)
  rw [show (w.alloc ber0).heap.size = w.heap.size + 1 by simp] at HO2
  have hrow : w2.heap[w.heap.size]? = some (.cells #[.int .u8 0, .int .u8 0, .bool false, .slice none 0 0, .slice none 0 0] 40 (0, 0)) := blk_keep (blk_keep (heap_new8 w _) (((Keeps.refl [] (w.alloc ber0)).drew).alloc (O (w.alloc ber0))) (by simp)) hk (by simp)
  have HR := Lib.hid hrow
  obtain ⟨⟨c0, c1, c2, c3, c4⟩, ⟨f0, f1, f2, f3, f4⟩⟩ := five_facts hrow
  clear hrow hk
  go_wp2_with fail
  exact ret_ber rfl rfl rfl (five_set HR.out) rfl ⟨_, _, rfl, five_bytes HO2.out (fun b hb => by simp [Value.ownBlock] at hb; omega), five_keep HK2.out (.inr (Nat.le_refl _))⟩

end Go.Proofs.YtbfebljahjmjfaaGreatDoor
