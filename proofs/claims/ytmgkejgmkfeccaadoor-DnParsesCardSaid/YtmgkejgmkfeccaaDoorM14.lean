/- Texts of one proof, laid together: N25 N26. -/
import Derived.Shelf.Pu.SyntaxError
import Derived.Lib.IfaceEq
import Derived.Test.YtmgkejgmkfeccaaDoorM13
/- dn: strconv.ParseUint of two digits; walked. -/
namespace Go.Proofs.YtmgkejgmkfeccaaDoor
open Go.RowKit Go.Shelf
set_option linter.unusedVariables false
set_option linter.unusedSimpArgs false
set_option maxRecDepth 100000

def pu_ren : Go.Shelf.Ren := ⟨fun | 21 => 124 | 25 => 138 | n => n, fun | 0 => 0 | 3 => 3 | 4 => 4 | 5 => 5 | 9 => 9 | 24 => 95 | 37 => 83 | 39 => 165 | 44 => 180 | 47 => 129 | 67 => 99 | n => n, fun | 0 => 2 | n => n⟩

theorem pu_lays : LaysPu.n21 Tryd.prog pu_ren where
  mixed := by kernel_rfl
  f21 := Tryd.func124.trans (congrArg some (by kernel_rfl))
  f25 := Tryd.func138.trans (congrArg some (by kernel_rfl))
  t0 := Tryd.underlying0
  a0 := Tryd.isAgg0
  z0 := Tryd.sizeOf0
  v0 := Tryd.zeroValue0
  i0 := by kernel_rfl
  t3 := Tryd.underlying3
  a3 := Tryd.isAgg3
  z3 := Tryd.sizeOf3
  v3 := Tryd.zeroValue3
  i3 := by kernel_rfl
  t4 := Tryd.underlying4
  a4 := Tryd.isAgg4
  z4 := Tryd.sizeOf4
  v4 := Tryd.zeroValue4
  i4 := by kernel_rfl
  t5 := Tryd.underlying5
  a5 := Tryd.isAgg5
  z5 := Tryd.sizeOf5
  v5 := Tryd.zeroValue5
  i5 := by kernel_rfl
  t9 := Tryd.underlying9
  a9 := Tryd.isAgg9
  z9 := Tryd.sizeOf9
  v9 := Tryd.zeroValue9
  i9 := by kernel_rfl
  t24 := Tryd.underlying95
  a24 := Tryd.isAgg95
  z24 := Tryd.sizeOf95
  v24 := Tryd.zeroValue95
  i24 := by kernel_rfl
  t37 := Tryd.underlying83
  a37 := Tryd.isAgg83
  z37 := Tryd.sizeOf83
  v37 := Tryd.zeroValue83
  i37 := by kernel_rfl
  t39 := Tryd.underlying165
  a39 := Tryd.isAgg165
  z39 := Tryd.sizeOf165
  v39 := Tryd.zeroValue165
  i39 := by kernel_rfl
  t44 := Tryd.underlying180
  a44 := Tryd.isAgg180
  z44 := Tryd.sizeOf180
  v44 := Tryd.zeroValue180
  i44 := by kernel_rfl
  t47 := Tryd.underlying129
  a47 := Tryd.isAgg129
  z47 := Tryd.sizeOf129
  v47 := Tryd.zeroValue129
  i47 := by kernel_rfl
  t67 := Tryd.underlying99
  a67 := Tryd.isAgg99
  z67 := Tryd.sizeOf99
  v67 := Tryd.zeroValue99
  i67 := by kernel_rfl
  g0 := by kernel_rfl
  m0 := by kernel_rfl

/-- The package's variable ErrSyntax is there. -/
def SynAt (w : World) : Prop := ∃ ev, w.cell? ⟨2, 0, none⟩ = some ev ∧ (ev = .nilIface ∨ ∃ te pe, ev = .iface te pe)
theorem SynAt.keep {w w' : World} {bs : List Nat} (h : SynAt w) (hk : Keeps bs w w') (hb : 2 ∉ bs) : SynAt w' := by
  obtain ⟨ev, h1, h2⟩ := h
  exact ⟨ev, (hk.cell (lt_of_cell h1) (by simpa using hb)).trans h1, h2⟩
theorem SynAt.lt {w : World} (h : SynAt w) : 2 < w.heap.size := by
  obtain ⟨ev, h1, _⟩ := h
  exact lt_of_cell h1

theorem toerror_is (fn s : List UInt8) (x y : Int) (w : World) (hs : s.length ≤ 1000000) (h : SynAt w) :
    Calls Tryd.prog 104 #[.string ⟨fn.toArray⟩, .string ⟨s.toArray⟩, .int .i64 x, .int .i64 y, .iface 163 (.int .i64 2)] w fun e w' => ∃ N, e = .returned (.iface 165 (.pointer (some ⟨N, 0, none⟩))) ∧ Keeps [] w w' := by
  obtain ⟨ev, h1, h2⟩ := h
  have HS := Lib.hid (AnyPu.strconv_syntaxError pu_lays ⟨fn.toArray⟩ ⟨s.toArray⟩ ev w (by show s.length ≤ _; omega) h1 h2)
  have heq : ∀ W, (binOp .eql 95 (.iface 163 (.int .i64 2)) (.iface 163 (.int .i64 2))).run Tryd.prog W = .ok (.bool true) W := fun W => Lib.run_eql_iface_int W 2 2 Tryd.underlying95 (by kernel_rfl) Tryd.underlying163
  clear h1 h2
  go_enter Tryd.func104, Tryd.ntmps104
  go_wp2_with fail
  refine HS.out.mono ?_
  rintro e w1 ⟨N, rfl, _, _, hb⟩
  have HB := Lib.hid hb
  clear hb
  go_wp2_with fail
  go_ret
  exact ⟨N, rfl, Keeps.of_below HB.out⟩

/-- What a text of two bytes is read as. -/
def PuE (R : Option Nat) (e : Ending) : Prop := (∀ N, R = some N → e = .returned (.tuple #[.int .u64 (N : Int), .nilIface])) ∧ (R = none → ∃ x t v, e = .returned (.tuple #[.int .u64 x, .iface t v]))
theorem scpu_is (l : List UInt8) (w : World) (hl : l.length = 2) (h : SynAt w) :
    Calls Tryd.prog 88 #[.string ⟨l.toArray⟩, .int .i64 16, .int .i64 8] w fun e w' => PuE (hexN l) e ∧ Keeps [] w w' := by
  have HI := Lib.hid (ipu_is l w hl)
  have HT := Lib.hid (fun X (hk : Keeps [] w X) => toerror_is [80, 97, 114, 115, 101, 85, 105, 110, 116] l 16 8 X (by omega) (h.keep hk (by simp)))
  obtain ⟨R, hR⟩ : ∃ R, hexN l = R := ⟨_, rfl⟩
  rw [hR] at HI ⊢
  have HN := Lib.hid (fun (W : World) (t : TypeId) (v : Value) => (show True from trivial))
  clear hl hR h
  go_enter Tryd.func88, Tryd.ntmps88
  go_wp2_with fail
  refine HI.out.mono ?_
  rintro e w1 ⟨⟨hp1, hp2⟩, hk⟩
  have HK := Lib.hid hk
  clear hk
  cases R with
  | some N =>
    obtain rfl := hp1 N rfl
    clear hp1 hp2
    go_wp2_with fail
    go_ret2
    exact ⟨⟨fun N' h => by injection h with h; subst h; rfl, fun h => by cases h⟩, HK.out⟩
  | none =>
    obtain rfl := hp2 rfl
    clear hp1 hp2
    go_wp2_with fail
    refine (HT.out _ HK.out).mono ?_
    rintro e w2 ⟨N, rfl, hk2⟩
    have HK2 := Lib.hid (HK.out.trans' hk2)
    clear hk2
    go_wp2_with fail
    go_ret2
    exact ⟨⟨fun N' h => (by cases h), fun _ => ⟨_, _, _, rfl⟩⟩, HK2.out⟩

end Go.Proofs.YtmgkejgmkfeccaaDoor
/- dn: what stands behind a backslash; walked. -/
namespace Go.Proofs.YtmgkejgmkfeccaaDoor
open Go.RowKit Go.Shelf
set_option linter.unusedVariables false
set_option linter.unusedSimpArgs false
set_option maxRecDepth 100000

/-- The byte that is told behind a backslash, and what stands behind that. -/
def behindL : List UInt8 → Option (UInt8 × List UInt8)
  | [] => none
  | c :: r => if mark6 c.toNat ≠ 0 then some (c, r) else match r with
    | [] => none
    | d :: r' => (hexN [c, d]).map fun N => (UInt8.ofNat N, r')
theorem hexN_two {c d : UInt8} {N : Nat} (h : hexN [c, d] = some N) : N < 256 := by
  unfold hexN at h
  simp only [List.foldl_cons, List.foldl_nil] at h
  cases h1 : dig1 c.toNat with
  | none => rw [h1] at h; simp at h
  | some a =>
    cases h2 : dig1 d.toNat with
    | none => rw [h1, h2] at h; simp at h
    | some b =>
      rw [h1, h2] at h
      simp at h
      have e1 := dig_bound h1
      have e2 := dig_bound h2
      omega
theorem MarksAt.keep {w X : World} {b : Nat} {bs : List Nat} (hm : MarksAt w b) (hk : Keeps bs w X) (hb : b ∉ bs) : MarksAt X b := by
  have hlt := World.ownsMap.lt hm
  obtain ⟨es, clock, h1, h2⟩ := hm
  exact ⟨es, clock, (hk.block b hlt hb).trans h1, h2⟩
theorem two_text (c d : UInt8) (w : World) : (convert 83 9 (.slice (some ⟨w.heap.size, 0, none⟩) 2 2)).run Tryd.prog (w.alloc (.cells #[.int .u8 (c.toNat : Int), .int .u8 (d.toNat : Int)] 5)) = .ok (.string ⟨[c, d].toArray⟩) (w.alloc (.cells #[.int .u8 (c.toNat : Int), .int .u8 (d.toNat : Int)] 5)) := by
  have h : BytesAt (w.alloc (.cells #[.int .u8 (c.toNat : Int), .int .u8 (d.toNat : Int)] 5)) (.slice (some ⟨w.heap.size, 0, none⟩) 2 2) [c, d] := by
    refine ⟨_, 2, rfl, Nat.le_refl _, by unfold maxLen; omega, fun _ => ⟨w.heap.size, 0, rfl, fun i x hx => ?_⟩⟩
    rw [Nat.zero_add, World.cell?_alloc_new]
    rcases i with _ | _ | i
    · simp at hx; subst hx; rfl
    · simp at hx; subst hx; rfl
    · simp at hx
  exact conv_bytes h

/-- What behindBackslash answers. -/
def BehQ (T : List UInt8) (k p : Nat) (w : World) (e : Ending) (w' : World) : Prop :=
  (∀ x r, behindL (T.drop k) = some (x, r) → e = .returned (.int .u8 (x.toNat : Int)) ∧ ∃ q : Nat, q ≤ T.length ∧ k < q ∧ T.drop q = r ∧ Box1 w' p 3 (.int .i64 (q : Int))) ∧ (behindL (T.drop k) = none → e = gaveUp 160) ∧ Keeps [p] w w'
abbrev nextF (p g : Nat) : Value := .func (.func 69) #[] #[.pointer (some ⟨p, 0, none⟩), .pointer (some ⟨g, 0, none⟩)]

set_option maxHeartbeats 4000000 in
theorem behind_is (T : List UInt8) (b p g k : Nat) (w : World) (hl : T.length ≤ 9000000000000000000) (hp : Box1 w p 3 (.int .i64 (k : Int))) (hg : Box1 w g 9 (.string ⟨T.toArray⟩)) (hpg : g ≠ p) (hm : MarksAt w b) (hbp : b ≠ p) (hs : SynAt w) (hsp : 2 ≠ p) :
    Calls Tryd.prog 70 #[.map (some b), nextF p g] w fun e w' => BehQ T k p w e w' := by
  cases hk : T[k]? with
  | none =>
    have hle := List.getElem?_eq_none_iff.1 hk
    have HQ : Hid (BehQ T k p w (gaveUp 160) w) := by
      have hd : T.drop k = [] := List.drop_of_length_le hle
      refine ⟨fun x r h => ?_, fun _ => rfl, Keeps.refl _ _⟩
      rw [hd] at h
      cases h
    have HN := Lib.hid (next_none T p g k w hp hg hle)
    clear hp hg hpg hm hbp hs hsp hk hle hl
    unfold nextF
    go_enter Tryd.func70, Tryd.ntmps70
    go_wp2_with fail
    refine HN.out.mono ?_
    rintro e w1 ⟨rfl, rfl⟩
    go_wp2_with fail
    exact ⟨rfl, HQ.out⟩
  | some c =>
    have hkl := (List.getElem?_eq_some_iff.1 hk).1
    have hd1 := drop_at hk
    have HN := Lib.hid (next_byte T p g k w hl hp hg hpg c hk)
    have HM := Lib.hid (fun X (hkk : Keeps [p] w X) => marks_look (hm.keep hkk (by simpa using hbp)) c)
    have hc : c.toNat < 256 := c.toNat_lt
    by_cases h0 : mark6 c.toNat = 0
    · rw [h0] at HM
      cases hk2 : T[k + 1]? with
      | none =>
        have hle := List.getElem?_eq_none_iff.1 hk2
        have HQ : Hid (∀ w', Keeps [p] w w' → BehQ T k p w (gaveUp 160) w') := fun w' hkk => by
          have hd : T.drop (k + 1) = [] := List.drop_of_length_le hle
          refine ⟨fun x r h => ?_, fun _ => rfl, hkk⟩
          rw [hd1, hd] at h
          simp [behindL, h0] at h
        have HN2 := Lib.hid (fun X (hb : Box1 X p 3 (.int .i64 ((k + 1 : Nat) : Int))) (hkk : Keeps [p] w X) => next_none T p g (k + 1) X hb (hg.keep hkk (by simpa using hpg)) hle)
        clear hp hg hpg hm hbp hs hsp hk hk2 hle hl hd1 h0 hkl
        unfold nextF
        go_enter Tryd.func70, Tryd.ntmps70
        go_wp2_with fail
        refine HN.out.mono ?_
        rintro e w1 ⟨rfl, hb1, hk1⟩
        have hlk := HM.out w1 hk1
        have H2 := Lib.hid (HN2.out w1 hb1 hk1)
        have HQ2 := Lib.hid (HQ.out w1 hk1)
        clear hb1 hk1
        go_wp2_with fail
        refine H2.out.mono ?_
        rintro e w2 ⟨rfl, rfl⟩
        go_wp2_with fail
        exact ⟨rfl, HQ2.out⟩
      | some d =>
        have hdl : d.toNat < 256 := d.toNat_lt
        have hkl2 := (List.getElem?_eq_some_iff.1 hk2).1
        have HN2 := Lib.hid (fun X (hb : Box1 X p 3 (.int .i64 ((k + 1 : Nat) : Int))) (hkk : Keeps [p] w X) => next_byte T p g (k + 1) X hl hb (hg.keep hkk (by simpa using hpg)) hpg d hk2)
        have HPU := Lib.hid (fun X (hkk : Keeps [p] w X) => scpu_is [c, d] X rfl (hs.keep hkk (by simpa using hsp)))
        have hbe : behindL (T.drop k) = (hexN [c, d]).map fun N => (UInt8.ofNat N, T.drop (k + 1 + 1)) := by
          rw [hd1, drop_at hk2]
          simp [behindL, h0]
        have HBE := Lib.hid hbe
        have HT2 := Lib.hid (fun X => two_text c d X)
        have HPL : Hid (p < w.heap.size) := hp.lt
        obtain ⟨R, hR⟩ : ∃ R, hexN [c, d] = R := ⟨_, rfl⟩
        have HR := Lib.hid hR
        rw [hR] at HPU HBE
        clear hp hg hpg hm hbp hs hsp hk hk2 hl hd1 h0 hkl hbe hR
        unfold nextF
        go_enter Tryd.func70, Tryd.ntmps70
        go_wp2_with fail
        refine HN.out.mono ?_
        rintro e w1 ⟨rfl, hb1, hk1⟩
        have hlk := HM.out w1 hk1
        have H2 := Lib.hid (HN2.out w1 hb1 hk1)
        have HK1 := Lib.hid hk1
        clear hb1 hk1
        go_wp2_with fail
        refine H2.out.mono ?_
        rintro e w2 ⟨rfl, hb2, hk2⟩
        have HB2 := Lib.hid hb2
        have HK2 := Lib.hid (HK1.out.trans hk2 (fun x hx => .inl hx))
        have hcv := HT2.out w2
        clear hb2 hk2 hlk
        go_wp2_with fail
        have HK3 := Lib.hid (HK2.out.alloc (.cells #[.int .u8 (c.toNat : Int), .int .u8 (d.toNat : Int)] 5))
        have HB3 : Hid (Box1 (w2.alloc (.cells #[.int .u8 (c.toNat : Int), .int .u8 (d.toNat : Int)] 5)) p 3 (.int .i64 ((k + 1 + 1 : Nat) : Int))) := HB2.out.keep (bs := []) ((Keeps.refl [] _).alloc _) (by simp)
        refine (HPU.out _ HK3.out).mono ?_
        rintro e w4 ⟨⟨hp1, hp2⟩, hk4⟩
        have HB4 := Lib.hid (HB3.out.keep hk4 (by simp))
        have HK4 := Lib.hid (HK3.out.trans hk4 (fun x hx => by cases hx))
        clear hk4 hcv
        cases R with
        | some N =>
          have hN := hexN_two HR.out
          obtain rfl := hp1 N rfl
          clear hp1 hp2
          have hNm : (N : Int) % 256 = (N : Int) := by omega
          go_wp2_with fail
          refine (must_is true _).mono ?_
          rintro e w5 ⟨h, rfl⟩
          rcases h with ⟨_, rfl⟩ | ⟨h, _⟩
          · go_wp2_with fail
            go_ret
            refine ⟨fun x r h => ?_, fun h => ?_, HK4.out⟩
            · rw [HBE.out] at h
              injection h with h
              injection h with h1 h2
              subst h1 h2
              refine ⟨?_, k + 1 + 1, by omega, by omega, rfl, HB4.out⟩
              show Ending.returned (.int .u8 (N : Int)) = _
              rw [UInt8.toNat_ofNat', Nat.mod_eq_of_lt (by omega)]
            · rw [HBE.out] at h
              cases h
          · cases h
        | none =>
          obtain ⟨x, t, v, rfl⟩ := hp2 rfl
          clear hp1 hp2
          go_wp2_with fail
          refine (must_is false _).mono ?_
          rintro e w5 ⟨h, rfl⟩
          rcases h with ⟨h, _⟩ | ⟨_, rfl⟩
          · cases h
          · go_wp2_with fail
            refine ⟨rfl, fun x r h => ?_, fun _ => rfl, HK4.out⟩
            rw [HBE.out] at h
            cases h
    · have HQ : Hid (∀ w', Keeps [p] w w' → Box1 w' p 3 (.int .i64 ((k + 1 : Nat) : Int)) → BehQ T k p w (.returned (.int .u8 (c.toNat : Int))) w') := fun w' hkk hb => by
        have hbe : behindL (T.drop k) = some (c, T.drop (k + 1)) := by
          rw [hd1]
          simp [behindL, h0]
        refine ⟨fun x r h => ?_, fun h => ?_, hkk⟩
        · rw [hbe] at h
          injection h with h
          injection h with h1 h2
          subst h1 h2
          exact ⟨rfl, k + 1, by omega, by omega, rfl, hb⟩
        · rw [hbe] at h
          cases h
      obtain ⟨mk, hmk⟩ : ∃ mk, mark6 c.toNat = mk := ⟨_, rfl⟩
      rw [hmk] at HM h0
      have h0i : ¬ (mk : Int) = 0 := by omega
      have h0b : ((mk : Int) == 0) = false := by simpa using h0i
      have h0c : ((mk : Int) != 0) = true := by simpa using h0i
      clear hp hg hpg hm hbp hs hsp hk hl hd1 h0 hkl hmk
      unfold nextF
      go_enter Tryd.func70, Tryd.ntmps70
      go_wp2_with fail
      refine HN.out.mono ?_
      rintro e w1 ⟨rfl, hb1, hk1⟩
      have hlk := HM.out w1 hk1
      have HQ2 := Lib.hid (HQ.out w1 hk1 hb1)
      clear hb1 hk1
      go_wp2_with fail
      go_ret
      exact HQ2.out

end Go.Proofs.YtmgkejgmkfeccaaDoor
