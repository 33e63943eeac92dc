/- crc's Write; what a sum that is not there answers. -/
import Derived.Test.YtjcfdakcihhblaaL6
namespace Go.Proofs.Ytjcfdakcihhblaa
open Go.RowKit
set_option linter.unusedVariables false

theorem cwrite (w : World) (p : Nat) (xs : List UInt8) (A : Option Addr) (n c : Nat) (bs : List UInt8) (h : Ad w p xs) (hb : BytesAt w (.slice A n c) bs) (hn : bs.length = n) (h3 : n ≤ 3000) (hx : xs.length ≤ 100000) (ho : 0 < n → ∀ b, (Value.slice A n c).ownBlock = some b → b ≠ p) :
    Calls Try.prog 16 #[.pointer (some ⟨p, 0, none⟩), .slice A n c] w fun e w' => e = .returned (.int .i64 0) ∧ Ad w' p (xs ++ bs) ∧ Keeps [p] w w' := by
  subst hn
  have hlt : p < w.heap.size := lt_of_heap h
  have CM := Lib.hid (cmissing w p xs h)
  have hP := one_part hb (by omega)
  have hk0 : Keeps [] w (w.alloc (.cells #[.slice A bs.length c] 28)) := (Keeps.refl [] w).alloc _
  have hPI := hP.in (p := p) (fun _ b o hb' => by injection hb' with hb'; injection hb' with hb'; omega) (fun x hx' h0 b hb' => by rw [List.mem_singleton] at hx'; subst hx'; exact ho h0 b hb')
  have hw0 : WordAt (w.alloc (.cells #[.slice A bs.length c] 28)) p #[.int .u32 (crcRun 4294967295 xs : Nat), .int .i64 (xs.length : Int)] 42 (crcRun 4294967295 xs) := blk_keep h hk0 (by simp)
  have PS := Lib.hid (cpass (some ⟨w.heap.size, 0, none⟩) 1 1 p (crcRun 4294967295 xs) [⟨A, c, bs⟩] _ _ _ (by decide) (crcRun_lt (by decide) _) (by simp) hw0 hPI)
  have e1 : flat [⟨A, c, bs⟩] = bs := by simp [flat]
  rw [e1, ← crcRun_append] at PS
  have HK0 := Lib.hid hk0
  have ew : IntKind.i64.wrap ((xs.length : Int) + (bs.length : Int)) = (xs.length : Int) + (bs.length : Int) := IntWalk.i64_in _ (by omega)
  have H := Lib.hid h
  clear hb hP hPI hw0 hk0 h ho
  go_enter Try.func16, Try.ntmps16
  go_wp2
  refine wp_scope_once 0 rfl ?_
  go_wp2_with (go_at_call 21; refine CM.out.mono ?_; rintro e w' ⟨rfl, rfl⟩)
  refine PS.out.mono ?_
  rintro e w1 ⟨⟨v, rfl⟩, hw1, hk1⟩
  have hb1 : w1.heap[p]? = some (.cells #[.int .u32 (crcRun 4294967295 (xs ++ bs) : Nat), .int .i64 (xs.length : Int)] 42 (0, 0)) := hw1
  have c1 := cell_of_blk hb1 1
  have f1 := free_of_blk hb1 1
  simp at c1
  have HAD : Hid (Ad (w1.setCell ⟨p, 1, none⟩ (.int .i64 ((xs.length : Int) + (bs.length : Int)))) p (xs ++ bs)) := by
    show _ = _
    simp [World.setCell, Array.getElem?_modify, hb1]
  have HK : Hid (Keeps [p] w (w1.setCell ⟨p, 1, none⟩ (.int .i64 ((xs.length : Int) + (bs.length : Int))))) :=
    ((HK0.out.mono (by simp)).trans' hk1).setCell (.inl (by simp)) _
  clear hk1 hw1 hb1 PS CM
  go_wp2_with fail
  simp only [Exit.jump]
  go_ret
  exact ⟨rfl, HAD.out, HK.out⟩

theorem ad_ok : AdOk Ad where
  keep h hk hp := blk_keep h hk hp
  lt h := lt_of_heap h
  new := cnew
  write := cwrite
  sum := casum
  len w p xs h _ := clen w p xs h
  copy := ccopy

section
variable (q : Option Addr) (w : World) (hm : Calls Try.prog 21 #[.pointer q] w fun e w' => e = .returned (.bool true) ∧ w = w')
include hm

theorem cwrite_none (v : Value) : Calls Try.prog 16 #[.pointer q, v] w fun e w' => e = .returned (.int .i64 1) ∧ w = w' := by
  have CM := Lib.hid hm
  clear hm
  go_enter Try.func16, Try.ntmps16
  go_wp2
  refine wp_scope_once 0 rfl ?_
  go_wp2_with (go_at_call 21; refine CM.out.mono ?_; rintro e w' ⟨rfl, rfl⟩)
  go_step3
  refine ⟨rfl, ?_⟩
  go_wp2
  rw [Exit.noGoto_ret]
  go_ret
  exact ⟨rfl, rfl⟩

theorem casum_none : Calls Try.prog 17 #[.pointer q] w fun e w' => e = .returned (.int .u32 0) ∧ w = w' := by
  have CM := Lib.hid hm
  clear hm
  go_enter Try.func17, Try.ntmps17
  go_wp2_with fail
  refine CM.out.mono ?_
  rintro e w' ⟨rfl, rfl⟩
  go_wp2_with fail
  go_ret
  exact ⟨rfl, rfl⟩

theorem clen_none : Calls Try.prog 18 #[.pointer q] w fun e w' => e = .returned (.int .i64 0) ∧ w = w' := by
  have CM := Lib.hid hm
  clear hm
  go_enter Try.func18, Try.ntmps18
  go_wp2_with fail
  refine CM.out.mono ?_
  rintro e w' ⟨rfl, rfl⟩
  go_wp2_with fail
  go_ret
  exact ⟨rfl, rfl⟩

theorem ccopy_none : Calls Try.prog 15 #[.pointer q] w fun e w' => e = .returned (.pointer none) ∧ w = w' := by
  have CM := Lib.hid hm
  clear hm
  go_enter Try.func15, Try.ntmps15
  go_wp2_with fail
  refine CM.out.mono ?_
  rintro e w' ⟨rfl, rfl⟩
  go_wp2_with fail
  go_ret
  exact ⟨rfl, rfl⟩
end

theorem crcnil_out (A : Option Addr) (n c : Nat) (w : World) (h : 100 < n) (hm : n ≤ 9223372036854775807) : Calls Try.prog 6 #[.slice A n c] w fun e w' => e = .returned (.bool true) ∧ Keeps [] w w' := by
  have KN := fun W => Lib.hid (known2_any csum cstep W)
  go_enter Try.func6, Try.ntmps6
  go_wp2_with fail
  refine (KN _).out.mono ?_
  rintro e w1 ⟨rfl, hk1⟩
  have K1 := Lib.hid hk1
  clear hk1
  go_wp2_with fail
  go_ret
  exact ⟨rfl, K1.out⟩

theorem crcnil_in (A : Option Addr) (n c : Nat) (w : World) (h : n ≤ 100) : Calls Try.prog 6 #[.slice A n c] w fun e w' => e = .returned (.bool true) ∧ Keeps [] w w' := by
  have KN := fun W => Lib.hid (known2_any csum cstep W)
  have NM := fun W => Lib.hid (cmissing_nil W)
  have hz : (w.alloc (.cells #[.int .u32 0, .int .i64 0] 42)).heap[w.heap.size]? = some (.cells #[.int .u32 0, .int .i64 0] 42 (0, 0)) := heap_alloc_new' w _
  have ZM := Lib.hid (cmissing_zero _ _ _ hz)
  have HK := Lib.hid ((Keeps.refl [] w).alloc (.cells #[.int .u32 0, .int .i64 0] 42))
  clear hz
  go_enter Try.func6, Try.ntmps6
  go_wp2_with fail
  refine (cwrite_none none _ (NM _).out _).mono ?_
  rintro e w' ⟨rfl, rfl⟩
  go_wp2_with fail
  refine (cwrite_none _ _ ZM.out _).mono ?_
  rintro e w' ⟨rfl, rfl⟩
  go_wp2_with fail
  refine (casum_none none _ (NM _).out).mono ?_
  rintro e w' ⟨rfl, rfl⟩
  go_wp2_with fail
  refine (casum_none _ _ ZM.out).mono ?_
  rintro e w' ⟨rfl, rfl⟩
  go_wp2_with fail
  refine (clen_none none _ (NM _).out).mono ?_
  rintro e w' ⟨rfl, rfl⟩
  go_wp2_with fail
  refine (ccopy_none _ _ ZM.out).mono ?_
  rintro e w' ⟨rfl, rfl⟩
  go_wp2_with fail
  refine (KN _).out.mono ?_
  rintro e w1 ⟨rfl, hk1⟩
  have K1 := Lib.hid hk1
  clear hk1
  go_wp2_with fail
  go_ret
  exact ⟨rfl, HK.out.trans' K1.out⟩

theorem crcnil_any (A : Option Addr) (n c : Nat) (w : World) (hm : n ≤ 9223372036854775807) : Calls Try.prog 6 #[.slice A n c] w fun e w' => e = .returned (.bool true) ∧ Below w.heap.size w w' := by
  by_cases h : n ≤ 100
  · exact (crcnil_in A n c w h).mono fun _ _ ⟨h1, h2⟩ => ⟨h1, h2.below (Nat.le_refl _) (by simp)⟩
  · exact (crcnil_out A n c w (by omega) hm).mono fun _ _ ⟨h1, h2⟩ => ⟨h1, h2.below (Nat.le_refl _) (by simp)⟩

end Go.Proofs.Ytjcfdakcihhblaa
