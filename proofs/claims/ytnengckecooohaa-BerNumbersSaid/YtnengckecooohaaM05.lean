/- Texts of one proof, laid together: E6 E7 E8 E9 E10. -/
import Derived.Test.YtnengckecooohaaM04
import Derived.Recover
import Derived.Laws.Pointers
import Derived.Laws.EntriesVeiled
import Derived.Test.YtnengckecooohaaM02
/- ber: what is too deep; what does not fit; why a call gave up. -/
namespace Go.Proofs.Ytnengckecooohaa
open Go.RowKit Go.Shelf
set_option linter.unusedVariables false
set_option linter.unusedSimpArgs false
set_option maxRecDepth 100000

/-- A panic with an error's number. -/
abbrev gaveUp (n : Int) : Ending := .panicked [{ v := .iface 28 (.int .i64 n), recovered := false }]

theorem mustfit_is (n : Int) (w : World) : Calls Try.prog 40 #[.int .i64 n] w fun e w' => (n ≤ 65536 ∧ e = .returned (.tuple #[]) ∨ 65536 < n ∧ e = gaveUp 3) ∧ w = w' := by
  by_cases h : 65536 < n
  · go_enter Try.func40, Try.ntmps40
    go_wp2_with fail
    exact ⟨rfl, .inr ⟨h, rfl⟩, rfl⟩
  · go_enter Try.func40, Try.ntmps40
    go_wp2_with fail
    go_end0
    exact ⟨.inl rfl, rfl⟩

mutual
/-- Is something in a value too deep? -/
def deepB : Nat → BV → Bool
  | d, .mk _ _ _ _ l => decide (16 < d) || deepL (d + 1) l
def deepL : Nat → List BV → Bool
  | _, [] => false
  | d, t :: r => deepB d t || deepL d r
end
theorem deepL_snoc (d : Nat) : ∀ (l : List BV) (t : BV), deepL d (l ++ [t]) = (deepL d l || deepB d t)
  | [], t => by simp [deepL]
  | x :: r, t => by simp [deepL, deepL_snoc d r t, Bool.or_assoc]
theorem deepL_mem (d : Nat) : ∀ (l : List BV) (t : BV), t ∈ l → deepB d t = true → deepL d l = true
  | x :: r, t, hm, h => by
    rcases List.mem_cons.1 hm with hm | hm
    · subst hm; simp [deepL, h]
    · simp [deepL, deepL_mem d r t hm h]

/-- How look ends. -/
def LookQ (d : Nat) (t : BV) (w : World) (e : Ending) (w' : World) : Prop := (deepB d t = false ∧ e = .returned (.tuple #[]) ∨ deepB d t = true ∧ e = gaveUp 150) ∧ Keeps [] w w'

set_option maxHeartbeats 1000000 in
theorem look_is : ∀ (t : BV) (d : Nat) (h : BH) (p : Nat) (w : World), d ≤ 17 → BerAt w t h → w.cell? ⟨p, 0, none⟩ = some (.func (.func 53) #[] #[.pointer (some ⟨p, 0, none⟩)]) →
    Calls Try.prog 53 #[.int .i64 (d : Int), h.val, .pointer (some ⟨p, 0, none⟩)] w (LookQ d t w) := by
  intro t
  induction t using BV.ind with
  | h c n k b l ih =>
    intro d h p w hd ht hp
    have IH := Lib.hid ih
    obtain ⟨rfl, rfl, rfl, h4, h5, h6, h7, h8, h9, h10, h11⟩ := ht
    obtain ⟨c, n, k, A, la, ca, B, lb, cb⟩ := h
    have hl : l.length = lb := h8
    have hlb : lb ≤ 9223372036854775807 := Nat.le_trans h9 h10
    have HI := Lib.hid h11
    have HL := Lib.hid hl
    have HK : Hid (Keeps [] w (w.alloc (.cells #[.int .u8 (c : Int), .int .u8 (n : Int), .bool k, .slice A la ca, .slice B lb cb] 25))) := (Keeps.refl [] w).alloc _
    have HP := Lib.hid (fun X (hk : Keeps [] w X) => (hk.cell (lt_of_cell hp) (by simp)).trans hp)
    clear h4 h5 h6 h7 h8 h9 h10 h11 hl hp
    unfold BH.val
    by_cases h16 : (16 : Int) < (d : Int)
    · go_enter Try.func53, Try.ntmps53
      go_wp2_with fail
      exact ⟨rfl, .inr ⟨by simp [deepB]; omega, rfl⟩, HK.out⟩
    · go_enter Try.func53, Try.ntmps53
      go_wp2_with fail
      go_loopw [13] (fun i wr => ∃ j : Nat, i = .int .i64 (j : Int) ∧ j ≤ lb ∧ Hid (deepL (d + 1) (l.take j) = false) ∧ Hid (Keeps [] w wr)) (fun i _ => lb - (intOf i).toNat)
      case atStart => exact ⟨0, rfl, Nat.zero_le _, by simp [Hid, deepL], HK.out⟩
      case round =>
        obtain ⟨j, rfl, hj, HD, HKR⟩ := hrel
        by_cases hlt : j < lb
        · have hx : l[j]? = some (l[j]'(by have := HL.out; omega)) := List.getElem?_eq_getElem _
          obtain ⟨b1, o1, hh, rfl, hc, hat⟩ := (ItemsAt.grow HKR.out B 0 l HI.out).at_ j _ hx
          rw [Nat.zero_add] at hc
          obtain ⟨g0, g1, g2, g3, g4⟩ := five_at hc
          have hmem : (l[j]'(by have := HL.out; omega)) ∈ l := List.getElem_mem _
          have htk : l.take (j + 1) = l.take j ++ [l[j]'(by have := HL.out; omega)] := List.take_succ_eq_append_getElem _
          have HSN := Lib.hid (deepL_snoc (d + 1) (l.take j) (l[j]'(by have := HL.out; omega)))
          rw [← htk] at HSN
          generalize hxx : l[j]'(by have := HL.out; omega) = x at *
          obtain ⟨c', n', k', A', la', ca', B', lb', cb'⟩ := hh
          have HREC : Hid (∀ X, Keeps [] wr X → Calls Try.prog 53 #[.int .i64 ((d : Int) + 1), .agg #[.int .u8 (c' : Int), .int .u8 (n' : Int), .bool k', .slice A' la' ca', .slice B' lb' cb'], .pointer (some ⟨p, 0, none⟩)] X (LookQ (d + 1) x X)) := fun X hk => by
            have h9 := IH.out x hmem (d + 1) ⟨c', n', k', A', la', ca', B', lb', cb'⟩ p X (by omega) (BerAt.grow hk x _ hat) (HP.out X (HKR.out.trans' hk))
            rw [show ((d + 1 : Nat) : Int) = (d : Int) + 1 by omega] at h9
            exact h9
          have hp1 := HP.out wr HKR.out
          have hp2 : (wr.alloc (.cells #[.int .u8 (c' : Int), .int .u8 (n' : Int), .bool k', .slice A' la' ca', .slice B' lb' cb'] 25)).cell? ⟨p, 0, none⟩ = some (.func (.func 53) #[] #[.pointer (some ⟨p, 0, none⟩)]) := HP.out _ (HKR.out.alloc _)
          have hw : IntKind.i64.wrap ((d : Int) + 1) = ((d + 1 : Nat) : Int) := by rw [IntWalk.i64_in _ (by omega)]; omega
          clear hx hat hc htk hxx
          go_wp2_with fail
          refine (HREC.out _ ((Keeps.refl [] wr).alloc _)).mono ?_
          rintro e w2 ⟨⟨hd2, rfl⟩ | ⟨hd2, rfl⟩, hk2⟩
          · have HK2 := Lib.hid ((HKR.out.alloc _).trans' hk2)
            have HD2 : Hid (deepL (d + 1) (l.take (j + 1)) = false) := by
              have h9 := HSN.out
              rw [HD.out, hd2] at h9
              exact h9
            clear hk2 hd2
            go_wp2_with fail
            go_roundw
            case rel => exact ⟨j + 1, by go_num, by omega, HD2, HK2.out⟩
            case measure => simp [intOf]; omega
          · have HT : Hid (deepB d (.mk c n k b l) = true) := by
              have h9 := deepL_mem (d + 1) l x hmem hd2
              show _ = _
              simp [deepB, h9]
            have HK2 := Lib.hid ((HKR.out.alloc _).trans' hk2)
            clear hk2 hd2
            go_wp2_with fail
            exact ⟨rfl, .inr ⟨HT.out, rfl⟩, HK2.out⟩
        · obtain rfl : j = lb := by omega
          have HT : Hid (deepB d (.mk c n k b l) = false) := by
            have h9 := HD.out
            rw [List.take_of_length_le (by have := HL.out; omega)] at h9
            show _ = _
            simp [deepB, h9]
            omega
          go_wp2_with fail
          go_end0
          exact ⟨.inl ⟨HT.out, rfl⟩, HKR.out⟩

end Go.Proofs.Ytnengckecooohaa
/- ber: what gave up is told. -/
namespace Go.Proofs.Ytnengckecooohaa
open Go.RowKit Go.Shelf
set_option linter.unusedVariables false
set_option linter.unusedSimpArgs false
set_option maxRecDepth 100000

theorem notdeep_is (t : BV) (h : BH) (w : World) (ht : BerAt w t h) : Calls Try.prog 36 #[h.val] w (LookQ 1 t w) := by
  have hmf : ∀ (fn : Fn) (first cap : Array Value) (w : World), (Instr.makeFunc fn first cap).run Try.prog w = .ok (.func fn first cap) w := fun _ _ _ _ => rfl
  have HL := Lib.hid (fun p X (hk : Keeps [] w X) hp => look_is t 1 h p X (by decide) (BerAt.grow hk t h ht) hp)
  obtain ⟨c, n, k, A, la, ca, B, lb, cb⟩ := h
  clear ht
  unfold BH.val
  go_enter Try.func36, Try.ntmps36
  go_wp2_with fail
  refine (HL.out (w.heap.size + 1) _ (((Keeps.refl [] w).alloc _).alloc _) (by simp [go_sem])).mono ?_
  rintro e w2 ⟨⟨hd, rfl⟩ | ⟨hd, rfl⟩, hk⟩
  · have HK := Lib.hid ((((Keeps.refl [] w).alloc _).alloc _).trans' hk)
    clear hk
    go_wp2_with fail
    go_end0
    exact ⟨.inl ⟨hd, rfl⟩, HK.out⟩
  · have HK := Lib.hid ((((Keeps.refl [] w).alloc _).alloc _).trans' hk)
    clear hk
    go_wp2_with fail
    exact ⟨rfl, .inr ⟨hd, rfl⟩, HK.out⟩

theorem refusal_nil (w : World) : Calls Try.prog 34 #[.nilIface] w fun e w' => e = .returned (.int .i64 0) ∧ w = w' := by
  go_enter Try.func34, Try.ntmps34
  go_wp2_with fail
  go_ret
  exact ⟨rfl, rfl⟩
theorem refusal_no (n : Int) (w : World) : Calls Try.prog 34 #[.iface 28 (.int .i64 n)] w fun e w' => e = .returned (.int .i64 n) ∧ w = w' := by
  have hta : ∀ W, (Instr.typeAssert (.iface 28 (.int .i64 n)) 20 28 true).run Try.prog W = .ok (.tuple #[.int .i64 n, .bool true]) W := fun W => by kernel_rfl
  go_enter Try.func34, Try.ntmps34
  go_wp2_with fail
  go_ret
  exact ⟨rfl, rfl⟩

theorem encode_panicking (p : Nat) (x n : Int) (older : List PanicEntry) (w : World) (hc : w.cell? ⟨p, 0, none⟩ = some (.int .i64 x)) (hz : w.frozen? ⟨p, 0, none⟩ = false) :
    CallsD Try.prog 33 #[.pointer (some ⟨p, 0, none⟩)] (.panicking ({ v := .iface 28 (.int .i64 n), recovered := false } :: older)) w fun e u' w' =>
      e = .returned (.tuple #[]) ∧ u' = .panicking ({ v := .iface 28 (.int .i64 n), recovered := true } :: older) ∧ w' = w.setCell ⟨p, 0, none⟩ (.int .i64 n) := by
  refine callsD_of_wpS Try.func33 rfl fun c₀ cs hu => ?_
  apply wpS_region
  simp [wpOpsS, go_sem, recoverD, hu, Try.ntmps33, Exit.thenS]
  refine (refusal_no n w).mono ?_
  rintro e w1 ⟨rfl, rfl⟩
  simp [go_sem, hc, hz]
  simp [bodyPostS, results, Try.results33]
theorem encode_idle (p : Nat) (x : Int) (w : World) (hc : w.cell? ⟨p, 0, none⟩ = some (.int .i64 x)) (hz : w.frozen? ⟨p, 0, none⟩ = false) :
    CallsD Try.prog 33 #[.pointer (some ⟨p, 0, none⟩)] .returning w fun e u' w' =>
      e = .returned (.tuple #[]) ∧ u' = .returning ∧ w' = w.setCell ⟨p, 0, none⟩ (.int .i64 0) := by
  refine callsD_of_wpS Try.func33 rfl fun c₀ cs hu => ?_
  apply wpS_region
  simp [wpOpsS, go_sem, recoverD, hu, Try.ntmps33, Exit.thenS]
  refine (refusal_nil w).mono ?_
  rintro e w1 ⟨rfl, rfl⟩
  simp [go_sem, hc, hz]
  cases c₀
  simp_all [bodyPostS, results, Try.results33]

theorem decode_panicking (p : Nat) (x n : Int) (older : List PanicEntry) (w : World) (hc : w.cell? ⟨p, 0, none⟩ = some (.int .i64 x)) (hz : w.frozen? ⟨p, 0, none⟩ = false) :
    CallsD Try.prog 39 #[.pointer (some ⟨p, 0, none⟩)] (.panicking ({ v := .iface 28 (.int .i64 n), recovered := false } :: older)) w fun e u' w' =>
      e = .returned (.tuple #[]) ∧ u' = .panicking ({ v := .iface 28 (.int .i64 n), recovered := true } :: older) ∧ w' = w.setCell ⟨p, 0, none⟩ (.int .i64 n) := by
  refine callsD_of_wpS Try.func39 rfl fun c₀ cs hu => ?_
  apply wpS_region
  simp [wpOpsS, go_sem, recoverD, hu, Try.ntmps39, Exit.thenS]
  refine (refusal_no n w).mono ?_
  rintro e w1 ⟨rfl, rfl⟩
  simp [go_sem, hc, hz]
  simp [bodyPostS, results, Try.results39]
theorem decode_idle (p : Nat) (x : Int) (w : World) (hc : w.cell? ⟨p, 0, none⟩ = some (.int .i64 x)) (hz : w.frozen? ⟨p, 0, none⟩ = false) :
    CallsD Try.prog 39 #[.pointer (some ⟨p, 0, none⟩)] .returning w fun e u' w' =>
      e = .returned (.tuple #[]) ∧ u' = .returning ∧ w' = w.setCell ⟨p, 0, none⟩ (.int .i64 0) := by
  refine callsD_of_wpS Try.func39 rfl fun c₀ cs hu => ?_
  apply wpS_region
  simp [wpOpsS, go_sem, recoverD, hu, Try.ntmps39, Exit.thenS]
  refine (refusal_nil w).mono ?_
  rintro e w1 ⟨rfl, rfl⟩
  simp [go_sem, hc, hz]
  cases c₀
  simp_all [bodyPostS, results, Try.results39]

end Go.Proofs.Ytnengckecooohaa
/- ber: a tag; parts laid together. -/
namespace Go.Proofs.Ytnengckecooohaa
open Go.RowKit Go.Shelf
set_option linter.unusedVariables false
set_option linter.unusedSimpArgs false
set_option maxRecDepth 100000

/-- A value's tag. -/
def tagN (t : BV) : Nat := t.c * 64 + t.n + (if t.k then 32 else 0)
theorem or_tag : ∀ c, c < 4 → ∀ n, n < 31 → (c * 64 ||| n) = c * 64 + n ∧ ((c * 64 + n) ||| 32) = c * 64 + n + 32 := by decide +kernel

theorem tagof_is (c n : Nat) (k : Bool) (A B : Option Addr) (la ca lb cb : Nat) (w : World) (hc : c ≤ 3) (hn : n < 31) :
    Calls Try.prog 56 #[.agg #[.int .u8 (c : Int), .int .u8 (n : Int), .bool k, .slice A la ca, .slice B lb cb]] w fun e w' => ∃ V d, e = .returned (.slice V 1 d) ∧ w'.ownsRow w.heap.size 5 1 (.slice V 1 d) 1 ([n8 (c * 64 + n + (if k then 32 else 0) : Nat)].map bv) ∧ Keeps [] w w' := by
  obtain ⟨o1, o2⟩ := or_tag c (by omega) n hn
  have b1 : bits BinOp.or IntKind.u8 ((c : Int) * 64) (n : Int) = ((c * 64 + n : Nat) : Int) := by
    have h := u8_or_nat (c * 64) n (by omega) (by omega)
    rw [o1] at h
    rw [← h]
    congr 1
  have b2 : bits BinOp.or IntKind.u8 ((c * 64 + n : Nat) : Int) 32 = ((c * 64 + n + 32 : Nat) : Int) := by
    have h := u8_or_nat (c * 64 + n) 32 (by omega) (by omega)
    rw [o2] at h
    exact h
  have hs : IntKind.u8.wrap ((c : Int) * 64) = (c : Int) * 64 := by rw [IntKind.wrap_u8']; omega
  have b2' : bits BinOp.or IntKind.u8 ((c : Int) * 64 + (n : Int)) 32 = (c : Int) * 64 + (n : Int) + 32 := by
    rw [show (c : Int) * 64 + (n : Int) = ((c * 64 + n : Nat) : Int) by omega, b2]
    omega
  have fin : ∀ (W : World) (q : Nat), q < 256 → Keeps [] w W → ∃ V d, Value.slice (some ⟨W.heap.size, 0, none⟩) 1 1 = Value.slice V 1 d ∧ (W.alloc (.cells #[.int .u8 (q : Int)] 5)).ownsRow w.heap.size 5 1 (.slice V 1 d) 1 ([n8 (q : Int)].map bv) ∧ Keeps [] w (W.alloc (.cells #[.int .u8 (q : Int)] 5)) := fun W q hq hk => by
    refine ⟨_, _, rfl, ?_, hk.alloc _⟩
    have e : bv (n8 (q : Int)) = .int .u8 (q : Int) := by
      unfold bv
      rw [n8_val]
      congr 1
      omega
    have h : (W.alloc (.cells #[.int .u8 (q : Int)] 5)).ownsRow w.heap.size 5 1 (.slice (some ⟨W.heap.size, 0, none⟩) 1 1) 1 #[Value.int .u8 (q : Int)].toList := World.ownsRow_lit W #[.int .u8 (q : Int)] 1 hk.size (by decide) rfl
    rw [List.map_cons, List.map_nil, e]
    exact h
  cases k
  · go_enter Try.func56, Try.ntmps56
    go_wp2_with fail
    go_ret
    obtain ⟨V, d, hv, h9, h10⟩ := fin _ (c * 64 + n) (by omega) ((Keeps.refl [] w).alloc (.cells #[.int .u8 (c : Int), .int .u8 (n : Int), .bool false, .slice A la ca, .slice B lb cb] 25))
    refine ⟨V, d, ?_, ?_, ?_⟩
    · rw [← hv]; simp
    · simpa using h9
    · simpa using h10
  · go_enter Try.func56, Try.ntmps56
    go_wp2_with fail
    go_ret
    obtain ⟨V, d, hv, h9, h10⟩ := fin _ (c * 64 + n + 32) (by omega) ((Keeps.refl [] w).alloc (.cells #[.int .u8 (c : Int), .int .u8 (n : Int), .bool true, .slice A la ca, .slice B lb cb] 25))
    refine ⟨V, d, ?_, ?_, ?_⟩
    · rw [← hv]; simp
    · simpa using h9
    · simpa using h10

theorem hasprefix_is (b o n c : Nat) (xs : List UInt8) (g : Nat) (y : UInt8) (w : World) (hl : xs.length = n) (h1 : 1 ≤ n) (hb : BytesAt w (.slice (some ⟨b, o, none⟩) n c) xs) (hy : BytesAt w (.slice (some ⟨g, 0, none⟩) 1 1) [y]) :
    Calls Try.prog 72 #[.slice (some ⟨b, o, none⟩) n c, .slice (some ⟨g, 0, none⟩) 1 1] w fun e w' => e = .returned (.bool (xs.take 1 == [y])) ∧ w = w' := by
  have hcap : n ≤ c := by obtain ⟨A', c', he, h2, _⟩ := hb; injection he with _ h3 h4; omega
  have hp : BytesAt w (.slice (some ⟨b, o, none⟩) 1 c) (xs.take 1) := by
    have h := hb.part (i := 0) (m := 1) (by omega) hl
    simpa using h
  have HE := Lib.hid (equal_any _ _ (xs.take 1) [y] w hp hy)
  have h0 : ¬ (n : Int) < 1 := by omega
  have hc1 : ¬ (c : Int) < 1 := by omega
  clear hb hy hp hl
  go_enter Try.func72, Try.ntmps72
  go_wp2_with fail
  refine HE.out.mono ?_
  rintro e w1 ⟨rfl, rfl⟩
  go_wp2_with fail
  go_ret
  exact ⟨by simp, rfl⟩

theorem trim_is (b o n c : Nat) (xs : List UInt8) (g : Nat) (y : UInt8) (w : World) (hl : xs.length = n) (h1 : 1 ≤ n) (hb : BytesAt w (.slice (some ⟨b, o, none⟩) n c) xs) (hy : BytesAt w (.slice (some ⟨g, 0, none⟩) 1 1) [y]) :
    Calls Try.prog 69 #[.slice (some ⟨b, o, none⟩) n c, .slice (some ⟨g, 0, none⟩) 1 1] w fun e w' => ∃ B m d, e = .returned (.slice B m d) ∧ m = (if xs.take 1 == [y] then xs.drop 1 else xs).length ∧ BytesAt w (.slice B m d) (if xs.take 1 == [y] then xs.drop 1 else xs) ∧ w = w' := by
  have hcap : n ≤ c ∧ c ≤ 9223372036854775807 := by obtain ⟨A', c', he, h2, h3⟩ := hb; injection he with _ h4 h5; unfold maxLen at h3; omega
  have HP := Lib.hid (hasprefix_is b o n c xs g y w hl h1 hb hy)
  obtain ⟨B', d', hsl, hsb⟩ := slice_from (some ⟨b, o, none⟩) n c 1 xs hl hcap.1 hcap.2 (by omega) (fun _ => ⟨_, _, rfl⟩)
  have hsl : ∀ W, (Instr.slice 22 (.slice (some ⟨b, o, none⟩) n c) (some (.int .i64 1)) none none).run Try.prog W = .ok (.slice B' (n - 1) d') W := hsl
  have HS := Lib.hid (hsb w hb)
  have HB := Lib.hid hb
  have HL := Lib.hid hl
  clear hb hy hl hsb hcap
  go_enter Try.func69, Try.ntmps69
  go_wp2_with fail
  refine HP.out.mono ?_
  rintro e w1 ⟨rfl, rfl⟩
  cases hq : xs.take 1 == [y]
  · go_wp2_with fail
    all_goals first
      | (exfalso; simp_all; done)
      | (go_ret; exact ⟨_, _, _, rfl, by simp [HL.out], by simpa using HB.out, rfl⟩)
  · go_wp2_with fail
    all_goals first
      | (exfalso; simp_all; done)
      | (go_ret; exact ⟨_, _, _, rfl, by simp [HL.out], by simpa using HS.out, rfl⟩)

theorem own_none {w : World} {base : Nat} {g n c : Nat} {xs : List Value} (h : w.ownsRow base 5 1 (.slice (some ⟨g, 0, none⟩) n c) n xs) : w.ownsRow base 5 1 (.slice (some ⟨g, 0, none⟩) 0 c) 0 [] := by
  rcases h.2 with ⟨h', _⟩ | ⟨g', cap', cur, h', hb, hg, hnc, hcm, hcs, htake⟩
  · simp at h'
  · simp only [Value.slice.injEq, Option.some.injEq, Addr.mk.injEq, and_true, true_and] at h'
    obtain ⟨rfl, rfl⟩ := h'
    exact ⟨rfl, .inr ⟨g, c, cur, rfl, hb, hg, Nat.zero_le _, hcm, hcs, by simp⟩⟩

theorem grow_is (n : Nat) (w : World) (hn : n ≤ 140737488355328) : Calls Try.prog 68 #[.slice none 0 0, .int .i64 (n : Int)] w fun e w' => ∃ A d, e = .returned (.slice A 0 d) ∧ w'.ownsRow w.heap.size 5 1 (.slice A 0 d) 0 [] ∧ Keeps [] w w' := by
  obtain ⟨iu, hiu, hzu0, hzu1, hzu2⟩ := info_parts u8_info
  have h0 : ¬ (n : Int) < 0 := by omega
  by_cases hz : n = 0
  · subst hz
    go_enter Try.func68, Try.ntmps68
    go_wp2_with fail
    go_ret
    exact ⟨_, _, rfl, World.ownsRow_nil _ _ _ _, Keeps.refl _ _⟩
  · have h1 : (0 : Int) < (n : Int) := by omega
    go_enter Try.func68, Try.ntmps68
    go_wp2_with (at_builtin; refine wpList_append_zeros rfl (.tmp 20) (.tmp 21) 22 3 rfl w.heap.size 5 .i64 iu (.int .u8 0) Try.underlying22 Try.underlying3 hiu hzu0 hzu1 hzu2 rfl rfl (.slice none 0 0) 0 [] rfl (World.ownsRow_nil _ _ _ _) n rfl (by unfold maxLen; omega) (by omega) (Nat.le_refl _) ?_; intro v1 w1 ho hg hs; rw [Nat.zero_add] at ho; obtain ⟨VA, vc, hv⟩ := own_slice ho; subst hv; obtain ⟨g, cap, hv, _⟩ := ho.form (by omega); injection hv with hv _ hv2; subst hv hv2; have HO := Lib.hid (own_none ho); have HK := Lib.hid (Keeps.of_grown (bs := []) hg (by simp [Value.ownBlock])); clear ho hg hs)
    go_ret
    exact ⟨_, _, rfl, HO.out, HK.out⟩

end Go.Proofs.Ytnengckecooohaa
/- ber: slices.Concat of bytes; a length's bytes. -/
namespace Go.Proofs.Ytnengckecooohaa
open Go.RowKit Go.Shelf
set_option linter.unusedVariables false
set_option linter.unusedSimpArgs false
set_option maxRecDepth 100000

def flatP (l : List Part) : List UInt8 := l.flatMap fun x => x.bs
theorem flatP_len : ∀ (l : List Part), (flatP l).length = total l
  | [] => rfl
  | x :: r => by
    have h := flatP_len r
    unfold flatP total at *
    simp [List.flatMap_cons, h]
theorem total_take_le : ∀ (l : List Part) (j : Nat), total (l.take j) ≤ total l
  | [], j => by simp
  | x :: r, 0 => by simp [total]
  | x :: r, j + 1 => by
    have h := total_take_le r j
    show total (x :: r.take j) ≤ total (x :: r)
    have e : ∀ q : List Part, total (x :: q) = x.bs.length + total q := fun q => by simp [total]
    rw [e, e]
    omega

set_option maxHeartbeats 1000000 in
theorem concat_is (A : Option Addr) (k c : Nat) (l : List Part) (w : World) (hl : PartsAt w A k l) (hk : k ≤ 1000) (ht : total l ≤ 100000000000000) :
    Calls Try.prog 55 #[.slice A k c] w fun e w' => ∃ B d, e = .returned (.slice B (flatP l).length d) ∧ w'.ownsRow w.heap.size 5 1 (.slice B (flatP l).length d) (flatP l).length ((flatP l).map bv) ∧ Keeps [] w w' := by
  obtain ⟨iu, hiu, hzu0, hzu1, hzu2⟩ := info_parts u8_info
  have HL := Lib.hid hl
  have HN := Lib.hid hl.len
  have HG := Lib.hid (grow_is (total l) w (by omega))
  have HFL := Lib.hid (flatP_len l)
  clear hl
  go_enter Try.func55, Try.ntmps55
  go_wp2_with fail
  go_loopw [3, 11] (fun s i wr => ∃ j : Nat, s = .int .i64 (total (l.take j) : Nat) ∧ i = .int .i64 (j : Int) ∧ j ≤ k ∧ wr = w) (fun _ i _ => k - (intOf i).toNat)
  case atStart => exact ⟨0, rfl, rfl, Nat.zero_le _, rfl⟩
  case round =>
    obtain ⟨j, rfl, rfl, hj, rfl⟩ := hrel
    by_cases hlt : j < k
    · obtain ⟨x, hx⟩ : ∃ x, l[j]? = some x := ⟨_, List.getElem?_eq_getElem (by have := HN.out; omega)⟩
      obtain ⟨b, o, rfl, hc, hb, hm⟩ := HL.out.at_ j x hx
      have hts : total (l.take (j + 1)) = total (l.take j) + x.bs.length := by
        rw [List.take_add_one, hx]
        exact total_snoc _ x
      have hle := total_take_le l (j + 1)
      have hsum : IntKind.i64.wrap (((total (l.take j) : Nat) : Int) + (x.bs.length : Int)) = ((total (l.take (j + 1)) : Nat) : Int) := by rw [IntWalk.i64_in _ (by omega)]; omega
      have hw64 : wrap64 (((total (l.take j) : Nat) : Int) + (x.bs.length : Int)) = ((total (l.take (j + 1)) : Nat) : Int) := by unfold wrap64; omega
      have hne : ¬ (((total (l.take j) : Nat) : Int) + (x.bs.length : Int)) < 0 := by omega
      have HTS := Lib.hid hts
      clear hb hts hx
      go_wp2_with fail
      go_roundw
      case rel => exact ⟨j + 1, by have := HTS.out; first | (congr 1; omega) | simp [this], by go_num, by omega, trivial⟩
      case measure => simp [intOf]; omega
    · obtain rfl : j = k := by omega
      have htk : l.take j = l := List.take_of_length_le (by have := HN.out; omega)
      rw [htk]
      clear htk
      go_wp2_with fail
      refine HG.out.mono ?_
      rintro e w1 ⟨GA, gd, rfl, ho, hk1⟩
      have HO := Lib.hid ho
      have HK1 := Lib.hid hk1
      clear ho hk1
      go_wp2_with fail
      obtain ⟨wo, rfl⟩ : ∃ wo : World, wo = wr := ⟨_, rfl⟩
      go_loopw [6, 27] (fun v i wq => ∃ (j2 : Nat) (VA : Option Addr) (vc : Nat), v = .slice VA (total (l.take j2)) vc ∧ i = .int .i64 (j2 : Int) ∧ j2 ≤ j ∧ Hid (wq.ownsRow wo.heap.size 5 1 (.slice VA (total (l.take j2)) vc) (total (l.take j2)) ((flatP (l.take j2)).map bv)) ∧ Hid (Keeps [] wo wq)) (fun _ i _ => j - (intOf i).toNat)
      case atStart => exact ⟨0, GA, gd, rfl, rfl, Nat.zero_le _, HO.out, HK1.out⟩
      case round =>
        obtain ⟨j2, VA, vc, rfl, rfl, hj2, HOW, HKR⟩ := hrel
        by_cases hlt2 : j2 < j
        · obtain ⟨x, hx⟩ : ∃ x, l[j2]? = some x := ⟨_, List.getElem?_eq_getElem (by have := HN.out; omega)⟩
          obtain ⟨b, o, rfl, hc, hb, hm⟩ := (HL.out.keep HKR.out).at_ j2 x hx
          have hts : total (l.take (j2 + 1)) = total (l.take j2) + x.bs.length := by
            rw [List.take_add_one, hx]
            exact total_snoc _ x
          have hfs : flatP (l.take (j2 + 1)) = flatP (l.take j2) ++ x.bs := by
            rw [List.take_add_one, hx]
            simp [flatP]
          have hle := total_take_le l (j2 + 1)
          have HTS := Lib.hid hts
          have HFS := Lib.hid hfs
          have hbnd : total (l.take j2) + x.bs.length ≤ 100000000000000 := by omega
          have SB := Lib.hid (Src.of_bytes hb)
          have hz := HKR.out.size
          clear hb hts hfs hx hle
          go_wp2_with (at_builtin; refine wpList_append_opt rfl (.tmp 31) (.tmp 32) 22 rfl wo.heap.size 5 iu _ 1 1 Try.underlying22 hiu hzu0 hzu1 hzu2 rfl (by decide) (.slice VA (total (l.take j2)) vc) (total (l.take j2)) ((flatP (l.take j2)).map bv) rfl HOW.out x.A x.bs.length x.c (x.bs.map bv) rfl (by simp) SB.out bvs_one (by unfold maxLen; omega) (by omega) hz ?_; intro v2 w2 ho hg hs; rw [← List.map_append] at ho; obtain ⟨VB, vd, hv⟩ := own_slice ho; subst hv; have HO2 := Lib.hid ho; have HK2 := Lib.hid (keeps_own8 HOW.out HKR.out hg); clear ho hg hs)
          go_roundw
          case rel => exact ⟨j2 + 1, VB, vd, by rw [HTS.out], by go_num, by omega, by show World.ownsRow _ _ _ _ _ _ _; rw [HTS.out, HFS.out]; exact HO2.out, HK2.out⟩
          case measure => simp [intOf]; omega
        · obtain rfl : j2 = j := by omega
          have htk : l.take j2 = l := List.take_of_length_le (by have := HN.out; omega)
          rw [htk] at HOW
          rw [htk]
          clear htk
          go_wp2_with fail
          go_ret
          rw [HFL.out]
          exact ⟨_, _, rfl, HOW.out, HKR.out⟩

end Go.Proofs.Ytnengckecooohaa
/- ber: a length's bytes. -/
namespace Go.Proofs.Ytnengckecooohaa
open Go.RowKit Go.Shelf
set_option linter.unusedVariables false
set_option linter.unusedSimpArgs false
set_option maxRecDepth 100000

theorem row_parts {w : World} (l : List Part) (hl : ∀ x ∈ l, BytesAt w (.slice x.A x.bs.length x.c) x.bs ∧ x.bs.length ≤ 9223372036854775807) :
    PartsAt (w.alloc (.cells (l.map fun x => Value.slice x.A x.bs.length x.c).toArray 22)) (some ⟨w.heap.size, 0, none⟩) l.length l := by
  refine ⟨rfl, fun i x hx => ?_⟩
  obtain ⟨h1, h2⟩ := hl x (List.mem_of_getElem? hx)
  refine ⟨w.heap.size, 0, rfl, ?_, h1.grow ((Keeps.refl [] w).alloc _), h2⟩
  rw [cell_of_blk (heap_new8 w _)]
  simp [hx]

/-- A length's bytes. -/
def lenB (n : Nat) : List UInt8 :=
  if n < 128 then [n8 (n : Int)]
  else n8 ((128 + (if (fewB (n : Int)).take 1 == [0] then (fewB (n : Int)).drop 1 else fewB (n : Int)).length : Nat) : Int) :: (if (fewB (n : Int)).take 1 == [0] then (fewB (n : Int)).drop 1 else fewB (n : Int))
theorem lenB_len (n : Nat) : 1 ≤ (lenB n).length ∧ (lenB n).length ≤ 9 := by
  have h := fewB_len (n : Int)
  unfold lenB
  split
  · simp
  · split <;> simp <;> omega

theorem own_one8 (W : World) (base : Nat) (q : Int) (hq : 0 ≤ q ∧ q < 256) (hb : base ≤ W.heap.size) : (W.alloc (.cells #[.int .u8 q] 5)).ownsRow base 5 1 (.slice (some ⟨W.heap.size, 0, none⟩) 1 1) 1 ([n8 q].map bv) := by
  have e : bv (n8 q) = .int .u8 q := by
    unfold bv
    rw [n8_val]
    congr 1
    omega
  have h : (W.alloc (.cells #[.int .u8 q] 5)).ownsRow base 5 1 (.slice (some ⟨W.heap.size, 0, none⟩) 1 1) 1 #[Value.int .u8 q].toList := World.ownsRow_lit W #[.int .u8 q] 1 hb (by decide) rfl
  rw [List.map_cons, List.map_nil, e]
  exact h

theorem lengthof_is (n : Nat) (w : World) (hn : n ≤ 9223372036854775807) : Calls Try.prog 57 #[.int .i64 (n : Int)] w fun e w' => ∃ A d, e = .returned (.slice A (lenB n).length d) ∧ BytesAt w' (.slice A (lenB n).length d) (lenB n) ∧ Keeps [] w w' := by
  by_cases h1 : n < 128
  · have hi : (n : Int) < 128 := by omega
    have e : lenB n = [n8 (n : Int)] := by unfold lenB; rw [if_pos h1]
    rw [e]
    have hq : (n : Int) % 256 = (n : Int) := by omega
    go_enter Try.func57, Try.ntmps57
    go_wp2_with fail
    go_ret
    have h9 := own_one8 w w.heap.size (n : Int) (by omega) (Nat.le_refl _)
    refine ⟨_, _, rfl, ?_, (Keeps.refl [] w).alloc _⟩
    first | exact BytesAt.of_own h9 | (rw [hq]; exact BytesAt.of_own h9)
  · have hi : ¬ (n : Int) < 128 := by omega
    have HF := Lib.hid (fewI_is (n : Int) w (by omega))
    obtain ⟨hf1, hf2⟩ := fewB_len (n : Int)
    obtain ⟨t, ht⟩ : ∃ t, (if (fewB (n : Int)).take 1 == [0] then (fewB (n : Int)).drop 1 else fewB (n : Int)) = t := ⟨_, rfl⟩
    have htl : t.length ≤ 8 := by
      rw [← ht]
      split
      · rw [List.length_drop]; omega
      · exact hf2
    have HE : Hid (lenB n = n8 ((128 + t.length : Nat) : Int) :: t) := by
      show _ = _
      unfold lenB
      rw [if_neg h1, ht]
    have HT := Lib.hid ht
    clear ht
    generalize hfb : fewB (n : Int) = fb at *
    go_enter Try.func57, Try.ntmps57
    go_wp2_with fail
    refine HF.out.mono ?_
    rintro e w1 ⟨A, c, rfl, ho, hk1⟩
    obtain ⟨g, cap, hv, _⟩ := ho.form (by omega)
    injection hv with hv _ hv2
    subst hv
    subst hv2
    have HB1 := Lib.hid (BytesAt.of_own ho)
    have HK1 := Lib.hid hk1
    have HTR := Lib.hid (trim_is g 0 fb.length c fb w1.heap.size 0 (w1.alloc (.cells #[.int .u8 0] 5)) rfl hf1 (HB1.out.grow ((Keeps.refl [] w1).alloc _)) (BytesAt.of_own (own_one8 w1 0 0 (by decide) (Nat.zero_le _))))
    clear ho hk1
    go_wp2_with fail
    refine HTR.out.mono ?_
    rintro e w2 ⟨B, m, d, rfl, hm, hb, rfl⟩
    rw [HT.out] at hm hb
    subst hm
    have HB2 := Lib.hid hb
    clear hb HTR
    have hq : wrap64 (128 + (t.length : Int)) = 128 + (t.length : Int) := by unfold wrap64; omega
    have hq2 : (128 + (t.length : Int)) % 256 = 128 + (t.length : Int) := by omega
    obtain ⟨X, hX⟩ : ∃ X, (w1.alloc (.cells #[.int .u8 0] 5)).alloc (.cells #[.int .u8 (128 + (t.length : Int))] 5) = X := ⟨_, rfl⟩
    have hXs : X.heap.size = w1.heap.size + 1 + 1 := by rw [← hX]; simp
    have hXk : Keeps [] (w1.alloc (.cells #[.int .u8 0] 5)) X := by rw [← hX]; exact (Keeps.refl [] _).alloc _
    have hb1 : BytesAt X (.slice (some ⟨w1.heap.size + 1, 0, none⟩) 1 1) [n8 (128 + (t.length : Int))] := by
      have h9 := own_one8 (w1.alloc (.cells #[.int .u8 0] 5)) 0 (128 + (t.length : Int)) (by omega) (Nat.zero_le _)
      rw [hX, show (w1.alloc (.cells #[.int .u8 0] 5)).heap.size = w1.heap.size + 1 by simp] at h9
      exact BytesAt.of_own h9
    have hp := row_parts (w := X) [⟨some ⟨w1.heap.size + 1, 0, none⟩, 1, [n8 (128 + (t.length : Int))]⟩, ⟨B, d, t⟩] (fun x hx => by
      rcases List.mem_cons.1 hx with hx | hx
      · subst hx; exact ⟨hb1, by simp⟩
      · rw [List.mem_singleton.1 hx]; exact ⟨HB2.out.grow hXk, by show t.length ≤ _; omega⟩)
    rw [hXs] at hp
    have HCC := Lib.hid (concat_is (some ⟨w1.heap.size + 1 + 1, 0, none⟩) 2 2 _ _ hp (by decide) (by simp [total]; omega))
    have hfl : flatP [⟨some ⟨w1.heap.size + 1, 0, none⟩, 1, [n8 (128 + (t.length : Int))]⟩, ⟨B, d, t⟩] = lenB n := by
      rw [HE.out]
      simp [flatP]
    rw [hfl] at HCC
    have HKX := Lib.hid (((HK1.out.alloc (.cells #[.int .u8 0] 5)).trans' hXk).alloc (.cells #[.slice (some ⟨w1.heap.size + 1, 0, none⟩) 1 1, .slice B t.length d] 22))
    clear hb1 hp hfl hXk
    go_wp2_with fail
    refine HCC.out.mono ?_
    rintro e w3 ⟨C, cd, rfl, ho3, hk3⟩
    have HB3 := Lib.hid (BytesAt.of_own ho3)
    have HK3 := Lib.hid (HKX.out.trans' hk3)
    clear ho3 hk3 HCC
    go_wp2_with fail
    go_ret
    exact ⟨_, _, rfl, HB3.out, HK3.out⟩

end Go.Proofs.Ytnengckecooohaa
