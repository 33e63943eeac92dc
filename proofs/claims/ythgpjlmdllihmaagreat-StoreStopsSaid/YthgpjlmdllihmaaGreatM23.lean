/- Texts of one proof, laid together: U24 U25 U26. -/
import Derived.Test.YthgpjlmdllihmaaGreatM20
import Derived.StillTailTactics
import Derived.Laws.EntriesVeiled
/- What a store answers without a Put: missing, Get, Weight, Broken, Disk; and where there is none. -/
namespace Go.Proofs.YthgpjlmdllihmaaGreat
open Go.RowKit Go.Shelf Go.Maps
set_option linter.unusedVariables false
set_option linter.unusedSimpArgs false
set_option maxRecDepth 100000

/-- No store: nil, or one that Open did not make. -/
def NoSt (w : World) (v : Value) : Prop := v = .pointer none ∨ ∃ p, v = .pointer (some ⟨p, 0, none⟩) ∧ w.cell? ⟨p, 3, none⟩ = some (.pointer none)

theorem StAt.cell {w : World} {s : St} (h : StAt w s) : w.cell? ⟨s.p, 0, none⟩ = some (.int .i64 (s.at_ : Int)) ∧ w.cell? ⟨s.p, 1, none⟩ = some (.int .u32 (s.turn : Int)) ∧ w.cell? ⟨s.p, 2, none⟩ = some (.map s.m) ∧ w.cell? ⟨s.p, 3, none⟩ = some (.pointer (some ⟨s.dp, 0, none⟩)) ∧ w.cell? ⟨s.p, 4, none⟩ = some (.bool s.br) := by
  have e := five_facts h
  exact e.1

theorem missing_no {w : World} {v : Value} (h : NoSt w v) : Calls Tryz.prog 23 #[v] w fun e w' => e = .returned (.bool true) ∧ w = w' := by
  rcases h with rfl | ⟨p, rfl, hc⟩
  · go_enter Tryz.func23, Tryz.ntmps23
    go_wp2
    go_ret
    exact ⟨rfl, rfl⟩
  · go_enter Tryz.func23, Tryz.ntmps23
    go_wp2
    go_ret
    exact ⟨rfl, rfl⟩

theorem missing_ok {w : World} {s : St} (h : StAt w s) : Calls Tryz.prog 23 #[.pointer (some ⟨s.p, 0, none⟩)] w fun e w' => e = .returned (.bool false) ∧ w = w' := by
  obtain ⟨_, _, _, c3, _⟩ := h.cell
  clear h
  go_enter Tryz.func23, Tryz.ntmps23
  go_wp2
  go_ret
  exact ⟨rfl, rfl⟩

theorem get_no {w : World} {v k : Value} (h : NoSt w v) : Calls Tryz.prog 18 #[v, k] w fun e w' => e = .returned (.tuple #[.string ⟨#[]⟩, .bool false]) ∧ w = w' := by
  have HM := Lib.hid (missing_no h)
  clear h
  go_enter Tryz.func18, Tryz.ntmps18
  go_wp2_with fail
  refine HM.out.mono ?_
  rintro e w1 ⟨rfl, rfl⟩
  go_wp2_with fail
  go_ret2
  exact ⟨rfl, rfl⟩

theorem weight_no {w : World} {v : Value} (h : NoSt w v) : Calls Tryz.prog 19 #[v] w fun e w' => e = .returned (.int .i64 0) ∧ w = w' := by
  have HM := Lib.hid (missing_no h)
  clear h
  go_enter Tryz.func19, Tryz.ntmps19
  go_wp2_with fail
  refine HM.out.mono ?_
  rintro e w1 ⟨rfl, rfl⟩
  go_wp2_with fail
  go_ret
  exact ⟨rfl, rfl⟩

theorem disk_no {w : World} {v : Value} (h : NoSt w v) : Calls Tryz.prog 12 #[v] w fun e w' => e = .returned (.pointer none) ∧ w = w' := by
  have HM := Lib.hid (missing_no h)
  clear h
  go_enter Tryz.func12, Tryz.ntmps12
  go_wp2_with fail
  refine HM.out.mono ?_
  rintro e w1 ⟨rfl, rfl⟩
  go_wp2_with fail
  go_ret
  exact ⟨rfl, rfl⟩

theorem all_no {w : World} {v : Value} (h : NoSt w v) : Calls Tryz.prog 10 #[v] w fun e w' => e = .returned (.slice none 0 0) ∧ w = w' := by
  have HM := Lib.hid (missing_no h)
  clear h
  go_enter Tryz.func10, Tryz.ntmps10
  go_wp2_with fail
  refine HM.out.mono ?_
  rintro e w1 ⟨rfl, rfl⟩
  go_wp2_with fail
  go_ret
  exact ⟨rfl, rfl⟩

theorem copy_no {w : World} {v : Value} (h : NoSt w v) : Calls Tryz.prog 11 #[v] w fun e w' => e = .returned (.pointer none) ∧ w = w' := by
  have HM := Lib.hid (missing_no h)
  clear h
  go_enter Tryz.func11, Tryz.ntmps11
  go_wp2_with fail
  refine HM.out.mono ?_
  rintro e w1 ⟨rfl, rfl⟩
  go_wp2_with fail
  go_ret
  exact ⟨rfl, rfl⟩

theorem put_no {w : World} {v l : Value} (h : NoSt w v) : Calls Tryz.prog 9 #[v, l] w fun e w' => e = .returned (.int .i64 1) ∧ w = w' := by
  have HM := Lib.hid (missing_no h)
  clear h
  go_enter Tryz.func9, Tryz.ntmps9
  go_wp2
  refine wp_scope_once 0 rfl ?_
  go_wp2_with fail
  refine HM.out.mono ?_
  rintro e w1 ⟨rfl, rfl⟩
  go_wp2_with fail
  go_step3
  refine ⟨rfl, ?_⟩
  go_wp2
  rw [Exit.noGoto_ret]
  go_ret
  exact ⟨rfl, rfl⟩

theorem disk_ok {w : World} {s : St} (h : StAt w s) : Calls Tryz.prog 12 #[.pointer (some ⟨s.p, 0, none⟩)] w fun e w' => e = .returned (.pointer (some ⟨s.dp, 0, none⟩)) ∧ w = w' := by
  have HM := Lib.hid (missing_ok h)
  obtain ⟨_, _, _, c3, _⟩ := h.cell
  clear h
  go_enter Tryz.func12, Tryz.ntmps12
  go_wp2_with fail
  refine HM.out.mono ?_
  rintro e w1 ⟨rfl, rfl⟩
  go_wp2_with fail
  go_ret
  exact ⟨rfl, rfl⟩

theorem weight_ok {w : World} {s : St} {T : Tab} (h : StAt w s) (hT : TabV w s.m T) (hw : tweight T ≤ 1000000000) : Calls Tryz.prog 19 #[.pointer (some ⟨s.p, 0, none⟩)] w fun e w' => e = .returned (.int .i64 (tweight T : Nat)) ∧ Keeps [] w w' := by
  have HM := Lib.hid (missing_ok h)
  have HW := Lib.hid (weight_any s.m T w hT hw)
  obtain ⟨_, _, c2, _, _⟩ := h.cell
  clear h hT
  go_enter Tryz.func19, Tryz.ntmps19
  go_wp2_with fail
  refine HM.out.mono ?_
  rintro e w1 ⟨rfl, rfl⟩
  go_wp2_with fail
  refine HW.out.mono ?_
  rintro e w1 ⟨rfl, hk⟩
  have HK := Lib.hid hk
  clear hk
  go_wp2_with fail
  go_ret
  exact ⟨rfl, HK.out⟩

theorem get_ok {w : World} {s : St} {T : Tab} (k : List UInt8) (h : StAt w s) (hT : TabV w s.m T) (hk : k.length ≤ maxLen) : Calls Tryz.prog 18 #[.pointer (some ⟨s.p, 0, none⟩), .string ⟨k.toArray⟩] w fun e w' => e = .returned (.tuple #[.string ⟨(tval T k).toArray⟩, .bool (thas T k)]) ∧ Keeps [] w w' := by
  have HM := Lib.hid (missing_ok h)
  obtain ⟨_, _, c2, _, _⟩ := h.cell
  have hl := (run_look hT 60 Tryz.underlying60 k hk).1
  clear h hT
  generalize (tval T k).toArray = V at *
  generalize thas T k = B at *
  go_enter Tryz.func18, Tryz.ntmps18
  go_wp2_with fail
  refine HM.out.mono ?_
  rintro e w1 ⟨rfl, rfl⟩
  go_wp2_with fail
  go_ret2
  exact ⟨rfl, (Keeps.refl [] w).alloc _⟩

end Go.Proofs.YthgpjlmdllihmaaGreat
/- The four steps of a Put, each from what the disk's call answers. -/
namespace Go.Proofs.YthgpjlmdllihmaaGreat
open Go.RowKit Go.Shelf Go.Maps
set_option linter.unusedVariables false
set_option linter.unusedSimpArgs false
set_option maxRecDepth 100000

theorem step2_of {R : Int → World → Prop} (b : Nat) (dv : Value) (w : World) (hb : w.cell? ⟨b, 0, none⟩ = some dv) (hd : ∃ a, dv = .pointer a) (hs : Calls Tryz.prog 64 #[dv] w fun e w' => ∃ n, e = .returned (.int .i64 n) ∧ R n w') :
    Calls Tryz.prog 63 #[.pointer (some ⟨b, 0, none⟩)] w fun e w' => ∃ n, e = .returned (.int .i64 n) ∧ R n w' := by
  obtain ⟨a, rfl⟩ := hd
  have HS := Lib.hid hs
  clear hs
  go_enter Tryz.func63, Tryz.ntmps63
  go_wp2_with fail
  refine HS.out.mono ?_
  rintro e w1 ⟨n, rfl, hr⟩
  have HR := Lib.hid hr
  clear hr
  go_wp2_with fail
  go_ret
  exact ⟨n, rfl, HR.out⟩

theorem step4_of {R : Int → World → Prop} (b : Nat) (dv : Value) (w : World) (hb : w.cell? ⟨b, 0, none⟩ = some dv) (hd : ∃ a, dv = .pointer a) (hs : Calls Tryz.prog 64 #[dv] w fun e w' => ∃ n, e = .returned (.int .i64 n) ∧ R n w') :
    Calls Tryz.prog 66 #[.pointer (some ⟨b, 0, none⟩)] w fun e w' => ∃ n, e = .returned (.int .i64 n) ∧ R n w' := by
  obtain ⟨a, rfl⟩ := hd
  have HS := Lib.hid hs
  clear hs
  go_enter Tryz.func66, Tryz.ntmps66
  go_wp2_with fail
  refine HS.out.mono ?_
  rintro e w1 ⟨n, rfl, hr⟩
  have HR := Lib.hid hr
  clear hr
  go_wp2_with fail
  go_ret
  exact ⟨n, rfl, HR.out⟩

theorem step1_of {R : Int → World → Prop} (b ba bh : Nat) (a : Option Addr) (at_ : Int) (A : Option Addr) (n c : Nat) (w : World) (hb : w.cell? ⟨b, 0, none⟩ = some (.pointer a)) (h1 : w.cell? ⟨ba, 0, none⟩ = some (.int .i64 at_)) (h2 : w.cell? ⟨bh, 0, none⟩ = some (.slice A n c))
    (hs : Calls Tryz.prog 62 #[.pointer a, .int .i64 at_, .slice A n c] w fun e w' => ∃ n, e = .returned (.int .i64 n) ∧ R n w') :
    Calls Tryz.prog 61 #[.pointer (some ⟨b, 0, none⟩), .pointer (some ⟨ba, 0, none⟩), .pointer (some ⟨bh, 0, none⟩)] w fun e w' => ∃ n, e = .returned (.int .i64 n) ∧ R n w' := by
  have HS := Lib.hid hs
  clear hs
  go_enter Tryz.func61, Tryz.ntmps61
  go_wp2_with fail
  refine HS.out.mono ?_
  rintro e w1 ⟨n, rfl, hr⟩
  have HR := Lib.hid hr
  clear hr
  go_wp2_with fail
  go_ret
  exact ⟨n, rfl, HR.out⟩

theorem step3_of {R : Int → World → Prop} (b ba bi g n c : Nat) (a : Option Addr) (at_ : Int) (w : World) (hn : 8 ≤ n) (hc : n ≤ c) (hcm : c ≤ 9223372036854775807) (hb : w.cell? ⟨b, 0, none⟩ = some (.pointer a)) (h1 : w.cell? ⟨ba, 0, none⟩ = some (.int .i64 at_)) (h2 : w.cell? ⟨bi, 0, none⟩ = some (.slice (some ⟨g, 0, none⟩) n c))
    (hs : Calls Tryz.prog 62 #[.pointer a, .int .i64 at_, .slice (some ⟨g, 0, none⟩) 8 c] w.drew fun e w' => ∃ n, e = .returned (.int .i64 n) ∧ R n w') :
    Calls Tryz.prog 65 #[.pointer (some ⟨b, 0, none⟩), .pointer (some ⟨ba, 0, none⟩), .pointer (some ⟨bi, 0, none⟩)] w fun e w' => ∃ n, e = .returned (.int .i64 n) ∧ R n w' := by
  have HS := Lib.hid hs
  have h8 : (8 : Int) ≤ (c : Int) := by omega
  have h8n : 8 ≤ c := by omega
  have hc0 : ¬ c = 0 := by omega
  clear hs hn hc
  go_enter Tryz.func65, Tryz.ntmps65
  go_wp2_with fail
  go_still_tail 5, (by kernel_rfl)
  change wpList _ _ _ _ _ w.drew
  go_wp2_with fail
  refine HS.out.mono ?_
  rintro e w1 ⟨n, rfl, hr⟩
  have HR := Lib.hid hr
  clear hr
  go_wp2_with fail
  go_ret
  exact ⟨n, rfl, HR.out⟩

end Go.Proofs.YthgpjlmdllihmaaGreat
/- firstRefusal over the four steps. -/
namespace Go.Proofs.YthgpjlmdllihmaaGreat
open Go.RowKit Go.Shelf Go.Maps
set_option linter.unusedVariables false
set_option linter.unusedSimpArgs false
set_option maxRecDepth 100000

/-- A step went (0) or was refused. -/
def StepQ (P : World → Prop) (Q : Int → World → Prop) (e : Ending) (w' : World) : Prop := ∃ n, e = .returned (.int .i64 n) ∧ (n = 0 ∧ P w' ∨ n ≠ 0 ∧ Q n w')

/-- The steps in their row. -/
def StepsAt (w : World) (f : Nat) (A0 A1 A2 A3 : Array Value) : Prop :=
  w.cell? ⟨f, 0, none⟩ = some (.func (.func 61) #[] A0) ∧ w.cell? ⟨f, 1, none⟩ = some (.func (.func 63) #[] A1) ∧ w.cell? ⟨f, 2, none⟩ = some (.func (.func 65) #[] A2) ∧ w.cell? ⟨f, 3, none⟩ = some (.func (.func 66) #[] A3)

theorem refusal_is {P0 P1 P2 P3 P4 : World → Prop} {Q : Int → World → Prop} (f : Nat) (A0 A1 A2 A3 : Array Value) (w : World)
    (c0 : ∀ W, P0 W → StepsAt W f A0 A1 A2 A3) (c1 : ∀ W, P1 W → StepsAt W f A0 A1 A2 A3) (c2 : ∀ W, P2 W → StepsAt W f A0 A1 A2 A3) (c3 : ∀ W, P3 W → StepsAt W f A0 A1 A2 A3)
    (s0 : ∀ W, P0 W → Calls Tryz.prog 61 A0 W (StepQ P1 Q)) (s1 : ∀ W, P1 W → Calls Tryz.prog 63 A1 W (StepQ P2 Q)) (s2 : ∀ W, P2 W → Calls Tryz.prog 65 A2 W (StepQ P3 Q)) (s3 : ∀ W, P3 W → Calls Tryz.prog 66 A3 W (StepQ P4 Q)) (h0 : P0 w) :
    Calls Tryz.prog 45 #[.slice (some ⟨f, 0, none⟩) 4 4] w (StepQ P4 Q) := by
  have S0 := Lib.hid s0
  have S1 := Lib.hid s1
  have S2 := Lib.hid s2
  have S3 := Lib.hid s3
  have C1 := Lib.hid c1
  have C2 := Lib.hid c2
  have C3 := Lib.hid c3
  have H0 := Lib.hid h0
  obtain ⟨x0, _, _, _⟩ := c0 w h0
  clear s0 s1 s2 s3 c0 c1 c2 c3 h0
  go_enter Tryz.func45, Tryz.ntmps45
  go_wp2
  refine wp_loop_rounds 5 ?_
  rw [rounds_succ]
  go_wp2_with fail
  refine (S0.out _ H0.out).mono ?_
  rintro e w1 ⟨n1, rfl, hh⟩
  rcases hh with ⟨rfl, hp⟩ | ⟨hne, hq⟩
  rotate_left
  · have HQ := Lib.hid hq
    clear hq
    go_wp2_with fail
    go_ret
    exact ⟨n1, rfl, .inr ⟨hne, HQ.out⟩⟩
  have H1 := Lib.hid hp
  obtain ⟨_, x1, _, _⟩ := C1.out w1 hp
  clear hp
  go_wp2_with fail
  rw [rounds_succ]
  go_wp2_with fail
  refine (S1.out _ H1.out).mono ?_
  rintro e w2 ⟨n2, rfl, hh⟩
  rcases hh with ⟨rfl, hp⟩ | ⟨hne, hq⟩
  rotate_left
  · have HQ := Lib.hid hq
    clear hq
    go_wp2_with fail
    go_ret
    exact ⟨n2, rfl, .inr ⟨hne, HQ.out⟩⟩
  have H2 := Lib.hid hp
  obtain ⟨_, _, x2, _⟩ := C2.out w2 hp
  clear hp
  go_wp2_with fail
  rw [rounds_succ]
  go_wp2_with fail
  refine (S2.out _ H2.out).mono ?_
  rintro e w3 ⟨n3, rfl, hh⟩
  rcases hh with ⟨rfl, hp⟩ | ⟨hne, hq⟩
  rotate_left
  · have HQ := Lib.hid hq
    clear hq
    go_wp2_with fail
    go_ret
    exact ⟨n3, rfl, .inr ⟨hne, HQ.out⟩⟩
  have H3 := Lib.hid hp
  obtain ⟨_, _, _, x3⟩ := C3.out w3 hp
  clear hp
  go_wp2_with fail
  rw [rounds_succ]
  go_wp2_with fail
  refine (S3.out _ H3.out).mono ?_
  rintro e w4 ⟨n4, rfl, hh⟩
  rcases hh with ⟨rfl, hp⟩ | ⟨hne, hq⟩
  rotate_left
  · have HQ := Lib.hid hq
    clear hq
    go_wp2_with fail
    go_ret
    exact ⟨n4, rfl, .inr ⟨hne, HQ.out⟩⟩
  have H4 := Lib.hid hp
  clear hp
  go_wp2_with fail
  rw [rounds_succ]
  go_wp2_with fail
  go_ret
  exact ⟨0, rfl, .inl ⟨rfl, H4.out⟩⟩

end Go.Proofs.YthgpjlmdllihmaaGreat
