/- Texts of one proof, laid together: Y5 Y6 Y7. -/
import Derived.Test.YtebocagkpkpghaaGreatDoorMA1
import Derived.BigQuiet
import Derived.Test.YtebocagkpkpghaaGreatDoorM90
/- entry: the reader's value, as words and walked. -/
namespace Go.Proofs.YtebocagkpkpghaaGreatDoor
open Go.RowKit Go.Shelf
set_option linter.unusedVariables false
set_option linter.unusedSimpArgs false
set_option maxRecDepth 100000

/-- The reader as words: what is left, and whether it is bad. -/
abbrev Rd := Txt × Bool
def untS (b : UInt8) (r : Rd) : Txt × Rd := ((cutP b r.1).1, ((cutP b r.1).2.getD [], r.2 || !(cutP b r.1).2.isSome))
def numS (b : UInt8) (r : Rd) : Int × Rd := (atoiR (cutP b r.1).1, ((cutP b r.1).2.getD [], r.2 || !(cutP b r.1).2.isSome || !numOkI (cutP b r.1).1))
def firS (n : Int) (r : Rd) : Txt × Bool × Rd := if 0 ≤ n ∧ n ≤ (r.1.length : Int) then (r.1.take n.toNat, true, (r.1.drop n.toNat, r.2)) else ([], false, r)
def valS (r : Rd) : Txt × Rd :=
  let a := numS 32 r
  let f := firS a.1 a.2
  let u := untS 10 f.2.2
  (f.1, (u.2.1, u.2.2 || !(f.2.1 && (u.1 == []))))
theorem untS_len (b : UInt8) (r : Rd) : (untS b r).2.1.length ≤ r.1.length := cutP_rest r.1
theorem numS_len (b : UInt8) (r : Rd) : (numS b r).2.1.length ≤ r.1.length := cutP_rest r.1
theorem firS_len (n : Int) (r : Rd) : (firS n r).2.2.1.length ≤ r.1.length := by
  unfold firS
  split
  · simp
  · exact Nat.le_refl _
theorem valS_len (r : Rd) : (valS r).2.1.length ≤ r.1.length :=
  Nat.le_trans (untS_len 10 _) (Nat.le_trans (firS_len _ _) (numS_len 32 r))
/-- A world behind w0, in which nothing but the reader turned. -/
structure RdW (w0 w : World) (g : Nat) (r : Rd) : Prop where
  at_ : RdAt w g r.1 r.2
  keep : Keeps [g] w0 w
  len : r.1.length ≤ 1000000000
theorem RdW.next {w0 w w' : World} {g : Nat} {r r' : Rd} (h : RdW w0 w g r) (ha : RdAt w' g r'.1 r'.2) (hk : Keeps [g] w w') (hl : r'.1.length ≤ r.1.length) : RdW w0 w' g r' :=
  ⟨ha, h.keep.trans' hk, Nat.le_trans hl h.len⟩
theorem RdW.drew {w0 w : World} {g : Nat} {r : Rd} (h : RdW w0 w g r) : RdW w0 w.drew g r := ⟨h.at_.keep ((Keeps.refl [] w).drew), h.keep.drew, h.len⟩
theorem RdW.on {w0 w w' : World} {g : Nat} {r : Rd} (h : RdW w0 w g r) (hk : Keeps [] w w') : RdW w0 w' g r := ⟨h.at_.keep hk, h.keep.trans hk (by simp), h.len⟩
theorem RdW.refl {w0 w : World} {g : Nat} {r : Rd} (h : RdW w0 w g r) : RdW w w g r := ⟨h.at_, Keeps.refl _ _, h.len⟩
/-- What a number's reading wants of the variables, whatever becomes of the reader. -/
structure NumG (w : World) (g : Nat) : Prop where
  pow : ∀ X, Keeps [g] w X → PowAt X
  syn : ErrAt 1 w
  rng : ErrAt 2 w
  hs : 1 ≠ g
  hr : 2 ≠ g
theorem NumG.next {w X : World} {g : Nat} (h : NumG w g) (hk : Keeps [g] w X) : NumG X g :=
  ⟨fun Y hY => h.pow Y (hk.trans' hY), h.syn.keep hk (by simpa using h.hs), h.rng.keep hk (by simpa using h.hr), h.hs, h.hr⟩
theorem NumW.on {w0 w : World} {g : Nat} (h : NumW w0) (hk : Keeps [] w0 w) (hg : w0.heap.size ≤ g) : NumG w g :=
  ⟨fun X hX => h.pow.keep (hk.trans hX (fun x hx => .inr (by rw [List.mem_singleton.1 hx]; exact hg))), h.syn.keep hk (by simp), h.rng.keep hk (by simp), by have := h.syn.lt; omega, by have := h.rng.lt; omega⟩
theorem unt_is {w0 w : World} {g : Nat} {r : Rd} (b : UInt8) (h : RdW w0 w g r) :
    Calls Tryz.prog 77 #[.pointer (some ⟨g, 0, none⟩), .string ⟨#[b]⟩] w fun e w' => e = .returned (tv (untS b r).1) ∧ RdW w0 w' g (untS b r).2 :=
  (runtil_is g r.1 r.2 b w h.at_ h.len).mono fun e w' ⟨h1, h2, h3⟩ => ⟨h1, h.next h2 h3 (untS_len b r)⟩
theorem num_is {w0 w : World} {g : Nat} {r : Rd} (b : UInt8) (h : RdW w0 w g r) (hN : NumG w0 g) :
    Calls Tryz.prog 78 #[.pointer (some ⟨g, 0, none⟩), .string ⟨#[b]⟩] w fun e w' => e = .returned (.int .i64 (numS b r).1) ∧ RdW w0 w' g (numS b r).2 := by
  have h9 := hN.next h.keep
  refine (rnumber7_is g r.1 r.2 b w h.at_ h.len (h9.pow w (Keeps.refl _ _)) h9.syn h9.rng h9.hs h9.hr h9.pow).mono ?_
  rintro e w' ⟨h1, h2, h3⟩
  exact ⟨h1, h.next h2 h3 (numS_len b r)⟩
theorem fir_is {w0 w : World} {g : Nat} {r : Rd} (n : Int) (h : RdW w0 w g r) :
    Calls Tryz.prog 93 #[.pointer (some ⟨g, 0, none⟩), .int .i64 n] w fun e w' => e = .returned (.tuple #[tv (firS n r).1, .bool (firS n r).2.1]) ∧ RdW w0 w' g (firS n r).2.2 := by
  by_cases hn : 0 ≤ n ∧ n ≤ (r.1.length : Int)
  · obtain ⟨k, rfl⟩ : ∃ k : Nat, n = (k : Int) := ⟨n.toNat, by omega⟩
    have hl := firS_len (k : Int) r
    unfold firS at hl ⊢
    rw [if_pos hn] at hl ⊢
    rw [show ((k : Int)).toNat = k by omega] at hl ⊢
    refine (rfirst_yes g r.1 r.2 k w h.at_ h.len (by omega)).mono ?_
    rintro e w' ⟨h1, h2, h3⟩
    exact ⟨h1, h.next h2 h3 hl⟩
  · unfold firS
    rw [if_neg hn]
    refine (rfirst_no g r.1 r.2 n w h.at_ h.len (by omega)).mono ?_
    rintro e w' ⟨h1, rfl⟩
    exact ⟨h1, h⟩
theorem mus_is {w0 w : World} {g : Nat} {r : Rd} (q : Bool) (h : RdW w0 w g r) :
    Calls Tryz.prog 91 #[.pointer (some ⟨g, 0, none⟩), .bool q] w fun e w' => (∃ v, e = .returned v) ∧ RdW w0 w' g (r.1, r.2 || !q) :=
  (rmust_is g r.1 r.2 q w h.at_).mono fun e w' ⟨h1, h2, h3⟩ => ⟨h1, h.next h2 h3 (Nat.le_refl _)⟩
set_option maxHeartbeats 8000000 in
theorem val_is {w0 w : World} {g : Nat} {r : Rd} (h : RdW w0 w g r) (hN : NumG w0 g) :
    Calls Tryz.prog 79 #[.pointer (some ⟨g, 0, none⟩)] w fun e w' => e = .returned (tv (valS r).1) ∧ RdW w0 w' g (valS r).2 := by
  have HNU := Lib.hid (fun X (hX : RdW w0 X g r) => num_is 32 hX hN)
  have HR := Lib.hid h
  have HV : Hid (valS r = ((firS (numS 32 r).1 (numS 32 r).2).1, ((untS 10 (firS (numS 32 r).1 (numS 32 r).2).2.2).2.1, (untS 10 (firS (numS 32 r).1 (numS 32 r).2).2.2).2.2 || !((firS (numS 32 r).1 (numS 32 r).2).2.1 && ((untS 10 (firS (numS 32 r).1 (numS 32 r).2).2.2).1 == []))))) := rfl
  obtain ⟨P, hP⟩ : ∃ P, valS r = P := ⟨_, rfl⟩
  rw [hP] at HV ⊢
  generalize numS 32 r = a at HNU HV
  obtain ⟨n, r1⟩ := a
  dsimp only at HNU HV
  have HFI := Lib.hid (fun X (hX : RdW w0 X g r1) => fir_is n hX)
  generalize firS n r1 = f at HFI HV
  obtain ⟨v, q, r2⟩ := f
  dsimp only at HFI HV
  have HUN := Lib.hid (fun X (hX : RdW w0 X g r2) => unt_is 10 hX)
  generalize untS 10 r2 = u at HUN HV
  obtain ⟨x, r3⟩ := u
  dsimp only at HUN HV
  have HMU := Lib.hid (fun z X (hX : RdW w0 X g r3) => mus_is z hX)
  unfold tv at HFI HUN
  obtain ⟨⟨c0, c1⟩, f0, f1⟩ := h.at_.cells
  clear h hP
  go_enter Tryz.func79, Tryz.ntmps79
  go_wp2_with fail
  refine wp_region_held_drew (S := (fun X => RdW w0 X g r ∨ RdW w0 X g r1 ∨ RdW w0 X g r2)) (by kernel_rfl) (.inl HR.out.drew) ?_
  intro HS
  refine wpAnyH_take (i := 0) (v := .pointer (some ⟨g, 0, none⟩)) rfl (by kernel_rfl) (by kernel_rfl) (by kernel_rfl) (fun _ _ _ h => h) (Or.inl ⟨by kernel_rfl, ?_⟩) HS ?_
  · intro w5 hw5
    obtain hw9 := hw5
    go_simp
  simp only [List.getElem_toArray, List.getElem_cons_succ, List.getElem_cons_zero, Act.put, List.setIfInBounds_toArray, List.set_cons_zero, List.set_cons_succ]
  refine wpAnyH_take (i := 1) (v := .pointer (some ⟨g, 0, none⟩)) rfl (by kernel_rfl) (by kernel_rfl) (by kernel_rfl) (fun _ _ _ h => h) (Or.inl ⟨by kernel_rfl, ?_⟩) HS ?_
  · intro w5 hw5
    obtain hw9 := hw5
    go_simp
  simp only [List.getElem_toArray, List.getElem_cons_succ, List.getElem_cons_zero, Act.put, List.setIfInBounds_toArray, List.set_cons_zero, List.set_cons_succ]
  refine wpAnyH_take (i := 2) (v := .pointer (some ⟨g, 0, none⟩)) rfl (by kernel_rfl) (by kernel_rfl) (by kernel_rfl) (fun _ _ _ h => h) (Or.inl ⟨by kernel_rfl, ?_⟩) HS ?_
  · intro w5 hw5
    obtain hw9 := hw5
    go_simp
  simp only [List.getElem_toArray, List.getElem_cons_succ, List.getElem_cons_zero, Act.put, List.setIfInBounds_toArray, List.set_cons_zero, List.set_cons_succ]
  refine wpAnyH_take (i := 3) (v := .pointer (some ⟨g, 0, none⟩)) rfl (by kernel_rfl) (by kernel_rfl) (by kernel_rfl) (fun _ _ _ h => h) (Or.inl ⟨by kernel_rfl, ?_⟩) HS ?_
  · intro w5 hw5
    obtain hw9 := hw5
    go_simp
  simp only [List.getElem_toArray, List.getElem_cons_succ, List.getElem_cons_zero, Act.put, List.setIfInBounds_toArray, List.set_cons_zero, List.set_cons_succ]
  refine wpAnyH_ready (rs := [4]) (by kernel_rfl) (by simp) ?_
  refine AllReadyH.cons rfl (fun K hK => ?_) AllReadyH.nil
  go_simp
  refine (HNU.out _ HR.out.drew).mono ?_
  rintro e w1 ⟨rfl, hr1⟩
  have HR1 := Lib.hid hr1
  clear hr1
  refine hK.out _ _ (.inr (.inl HR1.out)) (fun HS => ?_)
  clear hK K
  refine wpAnyH_ready (rs := [5]) (by kernel_rfl) (by simp) ?_
  refine AllReadyH.cons rfl (fun K hK => ?_) AllReadyH.nil
  go_simp
  refine (HFI.out _ HR1.out).mono ?_
  rintro e w2 ⟨rfl, hr2⟩
  have HR2 := Lib.hid hr2
  clear hr2
  refine hK.out _ _ (.inr (.inr HR2.out)) (fun HS => ?_)
  clear hK K
  refine wpAnyH_take (i := 6) (v := .tuple #[.string ⟨v.toArray⟩, .bool q]) rfl (by kernel_rfl) (by kernel_rfl) (by kernel_rfl) (fun _ _ _ h => h) (Or.inl ⟨by kernel_rfl, ?_⟩) HS ?_
  · intro w5 hw5
    obtain hw9 := hw5
    go_simp
  simp only [List.getElem_toArray, List.getElem_cons_succ, List.getElem_cons_zero, Act.put, List.setIfInBounds_toArray, List.set_cons_zero, List.set_cons_succ]
  refine wpAnyH_take (i := 7) (v := .string ⟨v.toArray⟩) rfl (by kernel_rfl) (by kernel_rfl) (by kernel_rfl) (fun _ _ _ h => h) (Or.inl ⟨by kernel_rfl, ?_⟩) HS ?_
  · intro w5 hw5
    obtain hw9 := hw5
    go_simp
  simp only [List.getElem_toArray, List.getElem_cons_succ, List.getElem_cons_zero, Act.put, List.setIfInBounds_toArray, List.set_cons_zero, List.set_cons_succ]
  refine wpAnyH_take (i := 8) (v := .bool q) rfl (by kernel_rfl) (by kernel_rfl) (by kernel_rfl) (fun _ _ _ h => h) (Or.inl ⟨by kernel_rfl, ?_⟩) HS ?_
  · intro w5 hw5
    obtain hw9 := hw5
    go_simp
  simp only [List.getElem_toArray, List.getElem_cons_succ, List.getElem_cons_zero, Act.put, List.setIfInBounds_toArray, List.set_cons_zero, List.set_cons_succ]
  refine wpAnyH_take (i := 9) (v := .string ⟨v.toArray⟩) rfl (by kernel_rfl) (by kernel_rfl) (by kernel_rfl) (fun _ _ _ h => h) (Or.inl ⟨by kernel_rfl, ?_⟩) HS ?_
  · intro w5 hw5
    obtain hw9 := hw5
    go_simp
  simp only [List.getElem_toArray, List.getElem_cons_succ, List.getElem_cons_zero, Act.put, List.setIfInBounds_toArray, List.set_cons_zero, List.set_cons_succ]
  refine wpAnyH_take (i := 10) (v := .bool q) rfl (by kernel_rfl) (by kernel_rfl) (by kernel_rfl) (fun _ _ _ h => h) (Or.inl ⟨by kernel_rfl, ?_⟩) HS ?_
  · intro w5 hw5
    obtain hw9 := hw5
    go_simp
  simp only [List.getElem_toArray, List.getElem_cons_succ, List.getElem_cons_zero, Act.put, List.setIfInBounds_toArray, List.set_cons_zero, List.set_cons_succ]
  refine wpAnyH_done (by kernel_rfl) ?_ _
  go_wp2_with fail
  refine (HUN.out _ HR2.out).mono ?_
  rintro e w3 ⟨rfl, hr3⟩
  have HR3 := Lib.hid hr3
  clear hr3
  obtain ⟨m, hm⟩ : ∃ m, (x == ([] : Txt)) = m := ⟨_, rfl⟩
  obtain ⟨hs1, hs2, hs3⟩ := tx_beq x [] m hm
  rw [hm] at HV
  cases q <;> cases m
  · have hxe : ¬ x = [] := by simpa using hm
    go_wp2_with fail
    refine (HMU.out false _ HR3.out).mono ?_
    rintro e w4 ⟨⟨z, rfl⟩, hr4⟩
    have HR4 := Lib.hid hr4
    clear hr4
    go_wp2_with fail
    go_ret
    rw [HV.out]
    exact ⟨rfl, HR4.out⟩
  · have hxe : x = [] := by simpa using hm
    go_wp2_with fail
    refine (HMU.out false _ HR3.out).mono ?_
    rintro e w4 ⟨⟨z, rfl⟩, hr4⟩
    have HR4 := Lib.hid hr4
    clear hr4
    go_wp2_with fail
    go_ret
    rw [HV.out]
    exact ⟨rfl, HR4.out⟩
  · have hxe : ¬ x = [] := by simpa using hm
    go_wp2_with fail
    refine (HMU.out false _ HR3.out).mono ?_
    rintro e w4 ⟨⟨z, rfl⟩, hr4⟩
    have HR4 := Lib.hid hr4
    clear hr4
    go_wp2_with fail
    go_ret
    rw [HV.out]
    exact ⟨rfl, HR4.out⟩
  · have hxe : x = [] := by simpa using hm
    go_wp2_with fail
    refine (HMU.out true _ HR3.out).mono ?_
    rintro e w4 ⟨⟨z, rfl⟩, hr4⟩
    have HR4 := Lib.hid hr4
    clear hr4
    go_wp2_with fail
    go_ret
    rw [HV.out]
    exact ⟨rfl, HR4.out⟩
end Go.Proofs.YtebocagkpkpghaaGreatDoor
/- entry: the reader's attribute, as words. -/
namespace Go.Proofs.YtebocagkpkpghaaGreatDoor
open Go.RowKit Go.Shelf
set_option linter.unusedVariables false
set_option linter.unusedSimpArgs false
set_option maxRecDepth 100000

theorem cutP_less {b : UInt8} {s : Txt} (h : (cutP b s).2.isSome = true) : ((cutP b s).2.getD []).length < s.length := by
  cases h2 : (cutP b s).2 with
  | none => rw [h2] at h; cases h
  | some r =>
    have := congrArg List.length (cutP_some h2)
    simp at this ⊢
    omega
theorem untS_less {b : UInt8} {r : Rd} (h : (untS b r).2.2 = false) : (untS b r).2.1.length < r.1.length ∧ r.2 = false := by
  unfold untS at h ⊢
  simp only [Bool.or_eq_false_iff, Bool.not_eq_false'] at h
  exact ⟨cutP_less h.2, h.1⟩
theorem numS_less {b : UInt8} {r : Rd} (h : (numS b r).2.2 = false) : (numS b r).2.1.length < r.1.length ∧ r.2 = false := by
  unfold numS at h ⊢
  simp only [Bool.or_eq_false_iff, Bool.not_eq_false'] at h
  exact ⟨cutP_less h.1.2, h.1.1⟩
theorem firS_bad (n : Int) (r : Rd) : (firS n r).2.2.2 = r.2 := by
  unfold firS
  split <;> rfl
theorem valS_less {r : Rd} (h : (valS r).2.2 = false) : (valS r).2.1.length < r.1.length ∧ r.2 = false := by
  unfold valS at h ⊢
  dsimp only at h ⊢
  rw [Bool.or_eq_false_iff] at h
  obtain ⟨h1, h2⟩ := untS_less h.1
  rw [firS_bad] at h2
  obtain ⟨h3, h4⟩ := numS_less h2
  have h5 := firS_len (numS 32 r).1 (numS 32 r).2
  exact ⟨by omega, h4⟩
/-- How much there is to read yet, at most. -/
def msr (r : Rd) : Nat := if r.2 = true then 0 else r.1.length + 1
theorem valS_msr {r : Rd} (h : r.2 = false) : msr (valS r).2 < msr r := by
  unfold msr
  rw [h]
  simp only [Bool.false_eq_true, if_false]
  cases hq : (valS r).2.2 with
  | true => simp
  | false =>
    have := (valS_less hq).1
    simp
    omega
/-- The Values that are read, as long as there are fewer than told, and none was bad. -/
def valsL (n : Int) : Nat → List Txt → Rd → List Txt × Rd
  | 0, acc, r => (acc, r)
  | f + 1, acc, r => if (acc.length : Int) < n ∧ r.2 = false then valsL n f (acc ++ [(valS r).1]) (valS r).2 else (acc, r)
theorem valsL_stop {n : Int} {f : Nat} {acc : List Txt} {r : Rd} (h : ¬ ((acc.length : Int) < n ∧ r.2 = false)) : valsL n f acc r = (acc, r) := by
  cases f with
  | zero => rfl
  | succ f => unfold valsL; rw [if_neg h]
theorem valsL_next {n : Int} {f : Nat} {acc : List Txt} {r : Rd} {P : List Txt × Rd} (h : (acc.length : Int) < n ∧ r.2 = false) (hf : msr r ≤ f) (hP : valsL n f acc r = P) : ∃ f', msr (valS r).2 ≤ f' ∧ valsL n f' (acc ++ [(valS r).1]) (valS r).2 = P := by
  have h1 := valS_msr h.2
  cases f with
  | zero => omega
  | succ f =>
    refine ⟨f, by omega, ?_⟩
    unfold valsL at hP
    rw [if_pos h] at hP
    exact hP
def attS (r : Rd) : Att × Rd :=
  let u := untS 32 r
  let m := numS 10 u.2
  let v := valsL m.1 (msr m.2) [] m.2
  ((u.1, v.1), v.2)
/-- A row of one type beside a block of another one. -/
theorem own_apart {w : World} {base size n : Nat} {e : TypeId} {v : Value} {xs : List Value} (h : w.ownsRow base e size v n xs) {g : Nat} {cs : Array Value} {t : TypeId} (hg : w.heap[g]? = some (.cells cs t (0, 0))) (hne : e ≠ t) : ∀ b, v.ownBlock = some b → b ≠ g := by
  intro b hb e2
  subst e2
  rcases h.2 with ⟨h1, h2⟩ | ⟨g', cap, cur, hv, _, hh, _⟩
  · rw [h1] at hb
    simp [Value.ownBlock] at hb
  · rw [hv] at hb
    simp [Value.ownBlock] at hb
    subst hb
    rw [hh] at hg
    injection hg with hg
    injection hg with _ hg _
    exact hne hg
end Go.Proofs.YtebocagkpkpghaaGreatDoor
/- entry: the reader's attr; walked. -/
namespace Go.Proofs.YtebocagkpkpghaaGreatDoor
open Go.RowKit Go.Shelf
set_option linter.unusedVariables false
set_option linter.unusedSimpArgs false
set_option maxRecDepth 100000

/-- What there is to read yet, at most, as memory tells it. -/
def msrW (g : Nat) (w : World) : Nat :=
  match w.cell? ⟨g, 1, none⟩, w.cell? ⟨g, 0, none⟩ with
  | some (.bool false), some (.string s) => s.size + 1
  | _, _ => 0
theorem msrW_is {w : World} {g : Nat} {r : Rd} (h : RdAt w g r.1 r.2) : msrW g w = msr r := by
  obtain ⟨⟨h0, h1⟩, _⟩ := h.cells
  obtain ⟨t, q⟩ := r
  dsimp only at h0 h1
  unfold msrW msr
  rw [h0, h1]
  cases q <;> simp [ByteArray.size]
theorem valS_txt (r : Rd) : (valS r).1.length ≤ r.1.length := by
  show (firS (numS 32 r).1 (numS 32 r).2).1.length ≤ _
  have h := numS_len 32 r
  unfold firS
  split
  · simp; omega
  · simp
structure AtS (w wr : World) (g R B : Nat) (nm : Txt) (A : Option Addr) (m c : Nat) (xs : List Txt) (r : Rd) : Prop where
  rd : RdW w wr g r
  box : wr.heap[B]? = some (.cells #[tv nm, .slice A m c] 59 (0, 0))
  row : wr.ownsRow (B + 1) 9 1 (.slice A m c) m (xs.map tv)
  len : xs.length = m
  txt : ∀ s ∈ xs, s.length ≤ 9223372036854775807
  lo : w.heap.size ≤ R
  lob : R < B
  res : wr.heap[R]? = some (.cells #[.string ⟨#[]⟩, .slice none 0 0] 59 (0, 0))
  few : m + msr r ≤ 1000000001
theorem AtS.cells {w wr : World} {g R B : Nat} {nm : Txt} {A : Option Addr} {m c : Nat} {xs : List Txt} {r : Rd} (h : AtS w wr g R B nm A m c xs r) : (wr.cell? ⟨B, 0, none⟩ = some (.string ⟨nm.toArray⟩) ∧ wr.cell? ⟨B, 1, none⟩ = some (.slice A m c)) ∧ (wr.frozen? ⟨B, 0, none⟩ = false ∧ wr.frozen? ⟨B, 1, none⟩ = false) := blk2 h.box
theorem AtS.rescells {w wr : World} {g R B : Nat} {nm : Txt} {A : Option Addr} {m c : Nat} {xs : List Txt} {r : Rd} (h : AtS w wr g R B nm A m c xs r) : (wr.cell? ⟨R, 0, none⟩ = some (.string ⟨#[]⟩) ∧ wr.cell? ⟨R, 1, none⟩ = some (.slice none 0 0)) ∧ (wr.frozen? ⟨R, 0, none⟩ = false ∧ wr.frozen? ⟨R, 1, none⟩ = false) := blk2 h.res
theorem AtS.snoc {w wr w3 w4 w5 : World} {g R B : Nat} {nm v : Txt} {A A5 : Option Addr} {m c c5 : Nat} {xs : List Txt} {q q' : Rd} (h : AtS w wr g R B nm A m c xs q) (hgw : g < w.heap.size) (h3 : RdW wr w3 g q') (k4 : Keeps [] w3 w4) (hg : w4.grownBy w5 (Value.slice A m c).ownBlock) (ho : w5.ownsRow (B + 1) 9 1 (.slice A5 (m + 1) c5) (m + 1) (xs.map tv ++ [tv v])) (hv : v.length ≤ 1000000000) (hm : msr q' < msr q) : AtS w (w5.setCell ⟨B, 1, none⟩ (.slice A5 (m + 1) c5)) g R B nm A5 (m + 1) c5 (xs ++ [v]) q' := by
  have hR := h.lo
  have hRB := h.lob
  have hfw := h.few
  have hblk : ∀ y ∈ (Value.slice A m c).ownBlock.toList, B + 1 ≤ y := fun y hy => by
    have h9 : (Value.slice A m c).ownBlock = some y := by simpa using hy
    exact (h.row.lt y h9).1
  have k5 : Keeps ((Value.slice A m c).ownBlock.toList) w4 w5 := Keeps.of_grown hg (fun x hx => .inl (by rw [hx]; simp))
  have k6 : Keeps [B] w5 (w5.setCell ⟨B, 1, none⟩ (.slice A5 (m + 1) c5)) := (Keeps.refl [B] w5).setCell (.inl (by simp)) _
  have n5 : ∀ y, y ≤ B → y ∉ (Value.slice A m c).ownBlock.toList := fun y hy hm => by have := hblk y hm; omega
  refine ⟨⟨?_, ?_, h3.len⟩, ?_, ?_, by rw [List.length_append, h.len]; rfl, fun x hx => ?_, hR, hRB, ?_, by omega⟩
  · exact blk_keep (blk_keep (h3.on k4).at_ k5 (n5 g (by omega))) k6 (by simp; omega)
  · refine ((h.rd.keep.trans' (h3.on k4).keep).trans k5 (fun x hx => .inr (by have := hblk x hx; omega))).trans k6 (fun x hx => .inr (by rw [List.mem_singleton.1 hx]; omega))
  · exact heap_setCell_same w5 B 1 _ _ _ (blk_keep (blk_keep h.box (h3.on k4).keep (by simp; omega)) k5 (n5 B (by omega)))
  · rw [List.map_append]
    exact own_keep ho k6 (fun b hb hm => by have := (ho.lt b hb).1; simp at hm; omega)
  · rcases List.mem_append.1 hx with hx | hx
    · exact h.txt x hx
    · rw [List.mem_singleton.1 hx]; omega
  · exact blk_keep (blk_keep (blk_keep h.res (h3.on k4).keep (by simp; omega)) k5 (n5 R (by omega))) k6 (by simp; omega)
/-- What the end leaves: the attribute in the result's box. -/
theorem AtS.fin {w wr : World} {g R B : Nat} {nm : Txt} {A : Option Addr} {m c : Nat} {xs : List Txt} {q : Rd} (h : AtS w wr g R B nm A m c xs q) (hgw : g < w.heap.size) :
    ((wr.setCell ⟨R, 0, none⟩ (tv nm)).setCell ⟨R, 1, none⟩ (.slice A m c)).heap[R]? = some (.cells #[tv nm, .slice A m c] 59 (0, 0)) ∧ ((wr.setCell ⟨R, 0, none⟩ (tv nm)).setCell ⟨R, 1, none⟩ (.slice A m c)).ownsRow w.heap.size 9 1 (.slice A m c) m (xs.map tv) ∧ RdW w ((wr.setCell ⟨R, 0, none⟩ (tv nm)).setCell ⟨R, 1, none⟩ (.slice A m c)) g q := by
  have hR := h.lo
  have hRB := h.lob
  have k : Keeps [R] wr ((wr.setCell ⟨R, 0, none⟩ (tv nm)).setCell ⟨R, 1, none⟩ (.slice A m c)) := ((Keeps.refl [R] wr).setCell (.inl (by simp)) _).setCell (.inl (by simp)) _
  refine ⟨?_, ?_, ⟨blk_keep h.rd.at_ k (by simp; omega), h.rd.keep.trans k (fun x hx => .inr (by rw [List.mem_singleton.1 hx]; omega)), h.rd.len⟩⟩
  · exact heap_setCell_same _ R 1 _ _ _ (heap_setCell_same wr R 0 _ _ (tv nm) h.res)
  · obtain ⟨h1, h2⟩ := own_keep h.row k (fun b hb hm => by have := (h.row.lt b hb).1; simp at hm; omega)
    refine ⟨h1, ?_⟩
    rcases h2 with h2 | ⟨g2, cap, cur, hv, hg, hh, r⟩
    · exact .inl h2
    · exact .inr ⟨g2, cap, cur, hv, by omega, hh, r⟩
set_option maxHeartbeats 8000000 in
theorem attr_is {w : World} {g : Nat} {r : Rd} (h : RdW w w g r) (hN : NumG w g) :
    Calls Tryz.prog 57 #[.pointer (some ⟨g, 0, none⟩)] w fun e w' => ∃ A m c, e = .returned (.agg #[tv (attS r).1.1, .slice A m c]) ∧ w'.ownsRow w.heap.size 9 1 (.slice A m c) m ((attS r).1.2.map tv) ∧ (attS r).1.2.length = m ∧ (∀ s ∈ (attS r).1.2, s.length ≤ 9223372036854775807) ∧ RdW w w' g (attS r).2 := by
  obtain ⟨iu, hiu, hzu0, hzu1, hzu2⟩ := info_parts str_info7
  have HR := Lib.hid h
  have hgw := h.at_.lt
  have hgw0 := h.at_.lt
  have HN := Lib.hid hN
  have HUN := Lib.hid (fun Y X (hX : RdW Y X g r) => unt_is 32 hX)
  have HA : Hid (attS r = (((untS 32 r).1, (valsL (numS 10 (untS 32 r).2).1 (msr (numS 10 (untS 32 r).2).2) [] (numS 10 (untS 32 r).2).2).1), (valsL (numS 10 (untS 32 r).2).1 (msr (numS 10 (untS 32 r).2).2) [] (numS 10 (untS 32 r).2).2).2)) := rfl
  have hn9 : (numS 10 (untS 32 r).2).1 ≤ 9223372036854775807 := (atoiR_bounds _).2
  obtain ⟨P, hP⟩ : ∃ P, attS r = P := ⟨_, rfl⟩
  rw [hP] at HA ⊢
  generalize untS 32 r = u at HUN HA hn9
  obtain ⟨nm, r1⟩ := u
  dsimp only at HUN HA hn9
  have HNU := Lib.hid (fun Y X (hX : RdW Y X g r1) (hY : NumG Y g) => num_is 10 hX hY)
  generalize numS 10 r1 = nn at HNU HA hn9
  obtain ⟨n, r2⟩ := nn
  dsimp only at HNU HA hn9
  unfold tv at HUN ⊢
  obtain ⟨⟨c0, c1⟩, f0, f1⟩ := h.at_.cells
  clear h hP hN
  go_enter Tryz.func57, Tryz.ntmps57
  go_wp2_with fail
  have HRB := Lib.hid (heap_new8 w (.cells #[.string ⟨#[]⟩, .slice none 0 0] 59))
  have HR0 : Hid (RdW w (w.alloc (.cells #[.string ⟨#[]⟩, .slice none 0 0] 59)) g r) := HR.out.on ((Keeps.refl [] w).alloc _)
  have hsz0 : w.heap.size < (w.alloc (.cells #[.string ⟨#[]⟩, .slice none 0 0] 59)).heap.size := lt_of_heap HRB.out
  generalize w.alloc (.cells #[.string ⟨#[]⟩, .slice none 0 0] 59) = W0 at HRB HR0 hsz0 ⊢
  obtain ⟨R, hR⟩ : ∃ R, w.heap.size = R := ⟨_, rfl⟩
  rw [hR] at HRB hsz0 hgw ⊢
  have hgR : g ≠ R := by omega
  refine (HUN.out W0 W0 HR0.out.refl).mono ?_
  rintro e w1 ⟨rfl, hr1⟩
  have HR1 : Hid (RdW w w1 g r1) := ⟨hr1.at_, HR0.out.keep.trans' hr1.keep, hr1.len⟩
  have hsz1 : R < w1.heap.size := Nat.lt_of_lt_of_le hsz0 hr1.keep.size
  have HRB1 := Lib.hid (blk_keep HRB.out hr1.keep (by simp; omega))
  clear hr1 HRB hsz0 HR0
  have HB0 := Lib.hid (heap_new8 w1 (.cells #[.string ⟨nm.toArray⟩, .slice none 0 0] 59))
  have HR1B : Hid (RdW w (w1.alloc (.cells #[.string ⟨nm.toArray⟩, .slice none 0 0] 59)) g r1) := HR1.out.on ((Keeps.refl [] w1).alloc _)
  have HRB2 : Hid ((w1.alloc (.cells #[.string ⟨nm.toArray⟩, .slice none 0 0] 59)).heap[R]? = _) := blk_keep HRB1.out ((Keeps.refl [] w1).alloc _) (by simp)
  go_wp2_with fail
  generalize w1.alloc (.cells #[.string ⟨nm.toArray⟩, .slice none 0 0] 59) = W1 at HB0 HR1B HRB2 ⊢
  generalize w1.heap.size = B at HB0 hsz1 ⊢
  refine (HNU.out W1 W1 HR1B.out.refl (HN.out.next HR1B.out.keep)).mono ?_
  rintro e w2 ⟨rfl, hr2⟩
  have hgB : g ≠ B := by omega
  have HS0 : Hid (AtS w w2 g R B nm none 0 0 [] r2) := ⟨⟨hr2.at_, HR1B.out.keep.trans' hr2.keep, hr2.len⟩, blk_keep HB0.out hr2.keep (by simp; omega), World.ownsRow_nil _ _ _ _, rfl, by simp, by omega, hsz1, blk_keep HRB2.out hr2.keep (by simp; omega), by unfold msr; have := hr2.len; split <;> omega⟩
  clear hr2
  go_wp2_with fail
  go_loopw [] (fun wr => ∃ (A : Option Addr) (m c f : Nat) (xs : List Txt) (q : Rd), Hid (AtS w wr g R B nm A m c xs q) ∧ Hid (msr q ≤ f) ∧ Hid (valsL n f xs q = valsL n (msr r2) [] r2)) (fun wr => msrW g wr)
  case atStart => exact ⟨none, 0, 0, msr r2, [], r2, HS0.out, Nat.le_refl _, rfl⟩
  case round =>
    obtain ⟨A, m, c, f, xs, q, HS, HM, HV⟩ := hrel
    have HMU := Lib.hid (msrW_is HS.out.rd.at_)
    obtain ⟨⟨a0, a1⟩, af0, af1⟩ := HS.out.cells
    obtain ⟨⟨d0, d1⟩, df0, df1⟩ := HS.out.rd.at_.cells
    obtain ⟨⟨e0, e1⟩, ef0, ef1⟩ := HS.out.rescells
    have hfew := HS.out.few
    by_cases hmn : (m : Int) < n
    · cases hq2 : q.2 with
      | true =>
        rw [hq2] at d1
        have HP9 : Hid (valsL n (msr r2) [] r2 = (xs, q)) := by show _ = _; rw [← HV.out]; exact valsL_stop (by rw [hq2]; simp)
        clear hq2
        go_wp2_with fail
        obtain ⟨h6, h7, h8⟩ := HS.out.fin hgw0
        refine bodyPost_ret (results_cell_row rfl _ _ R _ #[tv nm, .slice A m c] (0, 0) _ rfl h6 Tryz.underlying59 rfl (by kernel_rfl)) rfl ?_
        have h9 := HA.out
        rw [HP9.out] at h9
        rw [h9]
        first | exact ⟨A, m, c, rfl, h7, HS.out.len, HS.out.txt, h8⟩ | (rw [hR] at h7; exact ⟨A, m, c, rfl, h7, HS.out.len, HS.out.txt, h8⟩)
      | false =>
        rw [hq2] at d1
        have h9 : ((xs.length : Int) < n ∧ q.2 = false) := ⟨by rw [HS.out.len]; exact hmn, hq2⟩
        obtain ⟨f2, hf2, hv2⟩ := valsL_next h9 HM.out HV.out
        have HM2 := Lib.hid hf2
        have HV2 := Lib.hid hv2
        have HLS := Lib.hid (valS_msr hq2)
        have hmq : m ≤ 1000000000 := by
          have : 0 < msr q := Nat.lt_of_le_of_lt (Nat.zero_le _) HLS.out
          omega
        have HVT : Hid ((valS q).1.length ≤ 1000000000) := Nat.le_trans (valS_txt q) HS.out.rd.len
        have HVA := Lib.hid (val_is HS.out.rd.refl.drew (HN.out.next HS.out.rd.keep))
        generalize valS q = vq at HM2 HV2 HLS HVT HVA
        obtain ⟨v, q'⟩ := vq
        dsimp only at HM2 HV2 HLS HVT HVA
        unfold tv at HVA
        clear h9 hq2 hf2 hv2 HM HV
        go_wp2_with fail
        refine wp_region_held_drew (S := (fun _ => True)) (by kernel_rfl) trivial ?_
        intro HS2
        refine wpAnyH_take (i := 0) (v := .pointer (some ⟨B, 1, none⟩)) rfl (by kernel_rfl) (by kernel_rfl) (by kernel_rfl) (fun _ _ _ h => h) (Or.inl ⟨by kernel_rfl, ?_⟩) trivial ?_
        · intro w5 hw5
          obtain hw9 := hw5
          go_simp
        simp only [List.getElem_toArray, List.getElem_cons_succ, List.getElem_cons_zero, Act.put, List.setIfInBounds_toArray, List.set_cons_zero, List.set_cons_succ]
        refine wpAnyH_take (i := 2) (v := .pointer (some ⟨g, 0, none⟩)) rfl (by kernel_rfl) (by kernel_rfl) (by kernel_rfl) (fun _ _ _ h => h) (Or.inl ⟨by kernel_rfl, ?_⟩) trivial ?_
        · intro w5 hw5
          obtain hw9 := hw5
          go_simp
        simp only [List.getElem_toArray, List.getElem_cons_succ, List.getElem_cons_zero, Act.put, List.setIfInBounds_toArray, List.set_cons_zero, List.set_cons_succ]
        refine wpAnyH_ready (rs := [1, 3]) (by kernel_rfl) (by simp) ?_
        refine AllReadyH.cons rfl (fun K hK => ?_) (AllReadyH.cons rfl (fun K hK => ?_) AllReadyH.nil)
        · go_simp
          refine hK.out _ _ trivial (fun HS2 => ?_)
          clear hK K
          try simp only [List.getElem_toArray, List.getElem_cons_succ, List.getElem_cons_zero, Act.put, List.setIfInBounds_toArray, List.set_cons_zero, List.set_cons_succ]
          refine wpAnyH_ready (rs := [3]) (by kernel_rfl) (by simp) ?_
          refine AllReadyH.cons rfl (fun K hK => ?_) AllReadyH.nil
          go_simp
          refine HVA.out.mono ?_
          rintro e w3 ⟨rfl, hr3⟩
          have HR3 := Lib.hid hr3
          clear hr3
          have hgB9 : g ∉ [B] := by simp; omega
          have HB3 : Hid (w3.heap[B]? = some (.cells #[tv nm, .slice A m c] 59 (0, 0))) := blk_keep HS.out.box HR3.out.keep (by simp; omega)
          have HB4 : Hid ((w3.alloc (.cells #[tv v] 9)).heap[B]? = some (.cells #[tv nm, .slice A m c] 59 (0, 0))) := blk_keep HB3.out ((Keeps.refl [] w3).alloc _) (by simp)
          have HROW : Hid ((w3.alloc (.cells #[tv v] 9)).ownsRow (B + 1) 9 1 (.slice A m c) m (xs.map tv)) := own_keep (own_keep HS.out.row HR3.out.keep (fun b hb hm => by have := (HS.out.row.lt b hb).1; simp at hm; omega)) ((Keeps.refl [] w3).alloc _) (by simp)
          have hBsz : B + 1 ≤ (w3.alloc (.cells #[tv v] 9)).heap.size := lt_of_heap HB4.out
          obtain ⟨⟨y0, y1⟩, yf0, yf1⟩ := blk2 HB3.out
          obtain ⟨⟨z0, z1⟩, zf0, zf1⟩ := blk2 HB4.out
          unfold tv at z0 z1 zf0 zf1
          refine hK.out _ _ trivial (fun HS2 => ?_)
          clear hK K
          try simp only [List.getElem_toArray, List.getElem_cons_succ, List.getElem_cons_zero, Act.put, List.setIfInBounds_toArray, List.set_cons_zero, List.set_cons_succ]
          refine wpAnyH_ready (rs := [4]) (by kernel_rfl) (by simp) ?_
          refine AllReadyH.cons rfl (fun K hK => ?_) AllReadyH.nil
          go_simp
          refine hK.out _ _ trivial (fun HS2 => ?_)
          clear hK K
          try simp only [List.getElem_toArray, List.getElem_cons_succ, List.getElem_cons_zero, Act.put, List.setIfInBounds_toArray, List.set_cons_zero, List.set_cons_succ]
          refine wpAnyH_ready (rs := [5]) (by kernel_rfl) (by simp) ?_
          refine AllReadyH.cons rfl (fun K hK => ?_) AllReadyH.nil
          rw [if_pos (by kernel_rfl)]
          refine wp_append_opt (.tmp 23) (.tmp 26) 40 rfl (B + 1) 9 iu _ 1 16 Tryz.underlying40 hiu hzu0 hzu1 hzu2 rfl (by decide) (.slice A m c) m (xs.map tv) rfl HROW.out (some ⟨w3.heap.size, 0, none⟩) 1 1 [tv v] rfl rfl (src_one7 w3 v _) (by intro u hu; simp at hu; subst hu; rfl) (by unfold maxLen; omega) (by omega) hBsz ?_
          intro v5 w5 ho5 hg5 hs5
          obtain ⟨A5, c5, hv5⟩ := own_slice ho5
          subst hv5
          have HX := Lib.hid (HS.out.snoc hgw0 HR3.out ((Keeps.refl [] w3).alloc _) hg5 ho5 HVT.out HLS.out)
          have HB5 : Hid (w5.heap[B]? = some (.cells #[tv nm, .slice A m c] 59 (0, 0))) := blk_keep HB4.out (Keeps.of_grown (bs := (Value.slice A m c).ownBlock.toList) hg5 (fun x hx => .inl (by rw [hx]; simp))) (fun hm => absurd (HS.out.row.lt B (by simpa using hm)).1 (by omega))
          clear ho5 hg5 hs5
          obtain ⟨⟨x0, x1⟩, xf0, xf1⟩ := blk2 HB5.out
          refine hK.out _ _ trivial (fun HS2 => ?_)
          clear hK K
          simp only [List.getElem_toArray, List.getElem_cons_succ, List.getElem_cons_zero, Act.put, List.setIfInBounds_toArray, List.set_cons_zero, List.set_cons_succ]
          refine wpAnyH_take (i := 6) (v := .pointer (some ⟨B, 1, none⟩)) rfl (by kernel_rfl) (by kernel_rfl) (by kernel_rfl) (fun _ _ _ h => h) (Or.inl ⟨by kernel_rfl, ?_⟩) trivial ?_
          · intro w5 hw5
            obtain hw9 := hw5
            go_simp
          simp only [List.getElem_toArray, List.getElem_cons_succ, List.getElem_cons_zero, Act.put, List.setIfInBounds_toArray, List.set_cons_zero, List.set_cons_succ]
          refine wpAnyH_ready (rs := [7]) (by kernel_rfl) (by simp) ?_
          refine AllReadyH.cons rfl (fun K hK => ?_) AllReadyH.nil
          go_simp
          refine hK.out _ _ trivial (fun HS2 => ?_)
          clear hK K
          refine wpAnyH_done (by kernel_rfl) ?_ _
          clear x0 x1 xf0 xf1
          go_wp2_with fail
          go_roundw
          case rel => exact ⟨A5, m + 1, c5, f2, xs ++ [v], q', HX.out, HM2.out, HV2.out⟩
          case measure => rw [HMU.out, msrW_is HX.out.rd.at_]; exact HLS.out
        · go_simp
          refine HVA.out.mono ?_
          rintro e w3 ⟨rfl, hr3⟩
          have HR3 := Lib.hid hr3
          clear hr3
          have hgB9 : g ∉ [B] := by simp; omega
          have HB3 : Hid (w3.heap[B]? = some (.cells #[tv nm, .slice A m c] 59 (0, 0))) := blk_keep HS.out.box HR3.out.keep (by simp; omega)
          have HB4 : Hid ((w3.alloc (.cells #[tv v] 9)).heap[B]? = some (.cells #[tv nm, .slice A m c] 59 (0, 0))) := blk_keep HB3.out ((Keeps.refl [] w3).alloc _) (by simp)
          have HROW : Hid ((w3.alloc (.cells #[tv v] 9)).ownsRow (B + 1) 9 1 (.slice A m c) m (xs.map tv)) := own_keep (own_keep HS.out.row HR3.out.keep (fun b hb hm => by have := (HS.out.row.lt b hb).1; simp at hm; omega)) ((Keeps.refl [] w3).alloc _) (by simp)
          have hBsz : B + 1 ≤ (w3.alloc (.cells #[tv v] 9)).heap.size := lt_of_heap HB4.out
          obtain ⟨⟨y0, y1⟩, yf0, yf1⟩ := blk2 HB3.out
          obtain ⟨⟨z0, z1⟩, zf0, zf1⟩ := blk2 HB4.out
          unfold tv at z0 z1 zf0 zf1
          refine hK.out _ _ trivial (fun HS2 => ?_)
          clear hK K
          try simp only [List.getElem_toArray, List.getElem_cons_succ, List.getElem_cons_zero, Act.put, List.setIfInBounds_toArray, List.set_cons_zero, List.set_cons_succ]
          refine wpAnyH_ready (rs := [1, 4]) (by kernel_rfl) (by simp) ?_
          refine AllReadyH.cons rfl (fun K hK => ?_) (AllReadyH.cons rfl (fun K hK => ?_) AllReadyH.nil)
          · go_simp
            refine hK.out _ _ trivial (fun HS2 => ?_)
            clear hK K
            try simp only [List.getElem_toArray, List.getElem_cons_succ, List.getElem_cons_zero, Act.put, List.setIfInBounds_toArray, List.set_cons_zero, List.set_cons_succ]
            refine wpAnyH_ready (rs := [4]) (by kernel_rfl) (by simp) ?_
            refine AllReadyH.cons rfl (fun K hK => ?_) AllReadyH.nil
            go_simp
            refine hK.out _ _ trivial (fun HS2 => ?_)
            clear hK K
            try simp only [List.getElem_toArray, List.getElem_cons_succ, List.getElem_cons_zero, Act.put, List.setIfInBounds_toArray, List.set_cons_zero, List.set_cons_succ]
            refine wpAnyH_ready (rs := [5]) (by kernel_rfl) (by simp) ?_
            refine AllReadyH.cons rfl (fun K hK => ?_) AllReadyH.nil
            rw [if_pos (by kernel_rfl)]
            refine wp_append_opt (.tmp 23) (.tmp 26) 40 rfl (B + 1) 9 iu _ 1 16 Tryz.underlying40 hiu hzu0 hzu1 hzu2 rfl (by decide) (.slice A m c) m (xs.map tv) rfl HROW.out (some ⟨w3.heap.size, 0, none⟩) 1 1 [tv v] rfl rfl (src_one7 w3 v _) (by intro u hu; simp at hu; subst hu; rfl) (by unfold maxLen; omega) (by omega) hBsz ?_
            intro v5 w5 ho5 hg5 hs5
            obtain ⟨A5, c5, hv5⟩ := own_slice ho5
            subst hv5
            have HX := Lib.hid (HS.out.snoc hgw0 HR3.out ((Keeps.refl [] w3).alloc _) hg5 ho5 HVT.out HLS.out)
            have HB5 : Hid (w5.heap[B]? = some (.cells #[tv nm, .slice A m c] 59 (0, 0))) := blk_keep HB4.out (Keeps.of_grown (bs := (Value.slice A m c).ownBlock.toList) hg5 (fun x hx => .inl (by rw [hx]; simp))) (fun hm => absurd (HS.out.row.lt B (by simpa using hm)).1 (by omega))
            clear ho5 hg5 hs5
            obtain ⟨⟨x0, x1⟩, xf0, xf1⟩ := blk2 HB5.out
            refine hK.out _ _ trivial (fun HS2 => ?_)
            clear hK K
            simp only [List.getElem_toArray, List.getElem_cons_succ, List.getElem_cons_zero, Act.put, List.setIfInBounds_toArray, List.set_cons_zero, List.set_cons_succ]
            refine wpAnyH_take (i := 6) (v := .pointer (some ⟨B, 1, none⟩)) rfl (by kernel_rfl) (by kernel_rfl) (by kernel_rfl) (fun _ _ _ h => h) (Or.inl ⟨by kernel_rfl, ?_⟩) trivial ?_
            · intro w5 hw5
              obtain hw9 := hw5
              go_simp
            simp only [List.getElem_toArray, List.getElem_cons_succ, List.getElem_cons_zero, Act.put, List.setIfInBounds_toArray, List.set_cons_zero, List.set_cons_succ]
            refine wpAnyH_ready (rs := [7]) (by kernel_rfl) (by simp) ?_
            refine AllReadyH.cons rfl (fun K hK => ?_) AllReadyH.nil
            go_simp
            refine hK.out _ _ trivial (fun HS2 => ?_)
            clear hK K
            refine wpAnyH_done (by kernel_rfl) ?_ _
            clear x0 x1 xf0 xf1
            go_wp2_with fail
            go_roundw
            case rel => exact ⟨A5, m + 1, c5, f2, xs ++ [v], q', HX.out, HM2.out, HV2.out⟩
            case measure => rw [HMU.out, msrW_is HX.out.rd.at_]; exact HLS.out
          · go_simp
            refine hK.out _ _ trivial (fun HS2 => ?_)
            clear hK K
            try simp only [List.getElem_toArray, List.getElem_cons_succ, List.getElem_cons_zero, Act.put, List.setIfInBounds_toArray, List.set_cons_zero, List.set_cons_succ]
            refine wpAnyH_ready (rs := [1]) (by kernel_rfl) (by simp) ?_
            refine AllReadyH.cons rfl (fun K hK => ?_) AllReadyH.nil
            go_simp
            refine hK.out _ _ trivial (fun HS2 => ?_)
            clear hK K
            try simp only [List.getElem_toArray, List.getElem_cons_succ, List.getElem_cons_zero, Act.put, List.setIfInBounds_toArray, List.set_cons_zero, List.set_cons_succ]
            refine wpAnyH_ready (rs := [5]) (by kernel_rfl) (by simp) ?_
            refine AllReadyH.cons rfl (fun K hK => ?_) AllReadyH.nil
            rw [if_pos (by kernel_rfl)]
            refine wp_append_opt (.tmp 23) (.tmp 26) 40 rfl (B + 1) 9 iu _ 1 16 Tryz.underlying40 hiu hzu0 hzu1 hzu2 rfl (by decide) (.slice A m c) m (xs.map tv) rfl HROW.out (some ⟨w3.heap.size, 0, none⟩) 1 1 [tv v] rfl rfl (src_one7 w3 v _) (by intro u hu; simp at hu; subst hu; rfl) (by unfold maxLen; omega) (by omega) hBsz ?_
            intro v5 w5 ho5 hg5 hs5
            obtain ⟨A5, c5, hv5⟩ := own_slice ho5
            subst hv5
            have HX := Lib.hid (HS.out.snoc hgw0 HR3.out ((Keeps.refl [] w3).alloc _) hg5 ho5 HVT.out HLS.out)
            have HB5 : Hid (w5.heap[B]? = some (.cells #[tv nm, .slice A m c] 59 (0, 0))) := blk_keep HB4.out (Keeps.of_grown (bs := (Value.slice A m c).ownBlock.toList) hg5 (fun x hx => .inl (by rw [hx]; simp))) (fun hm => absurd (HS.out.row.lt B (by simpa using hm)).1 (by omega))
            clear ho5 hg5 hs5
            obtain ⟨⟨x0, x1⟩, xf0, xf1⟩ := blk2 HB5.out
            refine hK.out _ _ trivial (fun HS2 => ?_)
            clear hK K
            simp only [List.getElem_toArray, List.getElem_cons_succ, List.getElem_cons_zero, Act.put, List.setIfInBounds_toArray, List.set_cons_zero, List.set_cons_succ]
            refine wpAnyH_take (i := 6) (v := .pointer (some ⟨B, 1, none⟩)) rfl (by kernel_rfl) (by kernel_rfl) (by kernel_rfl) (fun _ _ _ h => h) (Or.inl ⟨by kernel_rfl, ?_⟩) trivial ?_
            · intro w5 hw5
              obtain hw9 := hw5
              go_simp
            simp only [List.getElem_toArray, List.getElem_cons_succ, List.getElem_cons_zero, Act.put, List.setIfInBounds_toArray, List.set_cons_zero, List.set_cons_succ]
            refine wpAnyH_ready (rs := [7]) (by kernel_rfl) (by simp) ?_
            refine AllReadyH.cons rfl (fun K hK => ?_) AllReadyH.nil
            go_simp
            refine hK.out _ _ trivial (fun HS2 => ?_)
            clear hK K
            refine wpAnyH_done (by kernel_rfl) ?_ _
            clear x0 x1 xf0 xf1
            go_wp2_with fail
            go_roundw
            case rel => exact ⟨A5, m + 1, c5, f2, xs ++ [v], q', HX.out, HM2.out, HV2.out⟩
            case measure => rw [HMU.out, msrW_is HX.out.rd.at_]; exact HLS.out
    · have HP9 : Hid (valsL n (msr r2) [] r2 = (xs, q)) := by show _ = _; rw [← HV.out]; exact valsL_stop (by rw [HS.out.len]; exact fun h => hmn h.1)
      go_wp2_with fail
      obtain ⟨h6, h7, h8⟩ := HS.out.fin hgw0
      refine bodyPost_ret (results_cell_row rfl _ _ R _ #[tv nm, .slice A m c] (0, 0) _ rfl h6 Tryz.underlying59 rfl (by kernel_rfl)) rfl ?_
      have h9 := HA.out
      rw [HP9.out] at h9
      rw [h9]
      first | exact ⟨A, m, c, rfl, h7, HS.out.len, HS.out.txt, h8⟩ | (rw [hR] at h7; exact ⟨A, m, c, rfl, h7, HS.out.len, HS.out.txt, h8⟩)
end Go.Proofs.YtebocagkpkpghaaGreatDoor
