/- Texts of one proof, laid together: W15 W16 W17. -/
import Derived.Test.YtebocagkpkpghaaGreatDoorM80
import Derived.Test.YtebocagkpkpghaaGreatDoorM77
/- entry: deeds; walked. -/
namespace Go.Proofs.YtebocagkpkpghaaGreatDoor
open Go.RowKit Go.Shelf
set_option linter.unusedVariables false
set_option linter.unusedSimpArgs false
set_option maxRecDepth 100000

/-- The deeds, by their kinds. -/
def deedsV : Value := .agg #[.nilFunc, .func (.func 80) #[] #[], .func (.func 81) #[] #[], .func (.func 82) #[] #[]]
theorem results_cell1 {P : Program} {fn : Func} {p : Tmp} {t1 : TypeId} (h : fn.results = #[.cell p t1]) (tmps : Array Value) (w : World) {a : Nat} {u : Value}
    (ha : tmps.getD p undef = .pointer (some ⟨a, 0, none⟩)) (h1 : (loadVar t1 ⟨a, 0, none⟩).run P w = .ok u w) : (results fn tmps).run P w = .ok u w := by
  have ha' : tmps[p]?.getD undef = .pointer (some ⟨a, 0, none⟩) := by simpa using ha
  simp [results, h, ha', asAddr, h1]
theorem deeds_is (w : World) :
    Calls Tryz.prog 65 #[] w fun e w' => e = .returned deedsV ∧ Keeps [] w w' := by
  go_enter Tryz.func65, Tryz.ntmps65
  go_wp2_with fail
  refine bodyPost_ret (results_cell1 rfl _ _ rfl (run_loadVar_row _ _ _ _ _ (0, 0) _ (heap_new8 w _) Tryz.underlying103 rfl (by kernel_rfl))) rfl ?_
  exact ⟨rfl, (Keeps.refl [] w).alloc _⟩
end Go.Proofs.YtebocagkpkpghaaGreatDoor
/- entry: a table without memory, and what a change makes of it. -/
namespace Go.Proofs.YtebocagkpkpghaaGreatDoor
open Go.RowKit Go.Maps Go.ChangeMaps Go.MapKept
set_option linter.unusedVariables false
set_option linter.unusedSimpArgs false
set_option maxRecDepth 100000

def cont2 (L : List Att) (k : Txt) : List Txt := ((L.find? fun a => a.1 == k).map fun a => a.2).getD []
def adel2 (L : List Att) (k : Txt) : List Att := L.filter fun a => !(a.1 == k)
def ains2 (x : Att) : List Att → List Att
  | [] => [x]
  | y :: r => if bytesBefore x.1 y.1 then x :: y :: r else y :: ains2 x r
def aput2 (L : List Att) (x : Att) : List Att := ains2 x (adel2 L x.1)
theorem ents_ins (x : At7) : ∀ T : List At7, ents (ains x T) = ains2 x.att (ents T)
  | [] => rfl
  | y :: r => by
    have h := ents_ins x r
    unfold ents at h ⊢
    simp only [ains, List.map_cons, ains2]
    show List.map At7.att (if bytesBefore x.name y.name then _ else _) = if bytesBefore x.name y.name then _ else _
    split
    · rfl
    · rw [List.map_cons, h]
theorem ents_del (T : List At7) (k : Txt) : ents (adel T k) = adel2 (ents T) k := by
  unfold ents adel adel2
  rw [List.filter_map]
  rfl
theorem ents_put (T : List At7) (x : At7) : ents (aput T x) = aput2 (ents T) x.att := by
  unfold aput aput2
  rw [ents_ins, ents_del]
  rfl
theorem ents_cont (T : List At7) (k : Txt) : cont2 (ents T) k = cont T k := by
  unfold cont2 cont ents aget
  rw [List.find?_map]
  cases h : List.find? (fun a : At7 => a.name == k) T with
  | none =>
    have : List.find? ((fun a : Att => a.1 == k) ∘ At7.att) T = none := h
    rw [this]
    rfl
  | some a =>
    have : List.find? ((fun a : Att => a.1 == k) ∘ At7.att) T = some a := h
    rw [this]
    rfl

/-- What the deeds answer, by their kinds. -/
def deedP (k : Nat) (had told : List Txt) : List Txt × Nat := if k = 1 then addP had told else if k = 2 then removeP had told else replaceP told
def deedN (k : Nat) : Nat := if k = 1 then 80 else if k = 2 then 81 else 82
theorem deed_is (k : Nat) (HA TA : Option Addr) (hn hc tn tc : Nat) (had told : List Txt) (w : World) (h1 : StrsIn w HA hn had) (h2 : StrsIn w TA tn told) (hb1 : hn ≤ 100000) (hb2 : tn ≤ 100000) :
    Calls Tryz.prog (deedN k) #[.slice HA hn hc, .slice TA tn tc] w (DeedQ (deedP k had told) w) := by
  unfold deedN deedP
  by_cases h : k = 1
  · rw [if_pos h, if_pos h]
    exact add_is HA TA hn hc tn tc had told w h1 h2 hb1 hb2
  · rw [if_neg h, if_neg h]
    by_cases h' : k = 2
    · rw [if_pos h', if_pos h']
      exact remove_is HA TA hn hc tn tc had told w h1 h2 (by omega) (by omega)
    · rw [if_neg h', if_neg h']
      exact replace_is _ TA tn tc told w h2 (by omega)
theorem deed_sub (k : Nat) (had told : List Txt) : ∀ s ∈ (deedP k had told).1, s ∈ had ∨ s ∈ told := by
  intro s hs
  unfold deedP at hs
  split at hs
  · unfold addP at hs
    split at hs
    · simp at hs
    · exact List.mem_append.1 hs
  · split at hs
    · unfold removeP at hs
      split at hs
      · simp at hs
      · exact .inl (List.mem_filter.1 hs).1
    · exact .inr ((ordS_is told).2 s |>.1 hs)
/-- What a change makes of a table (worth nothing where it is refused). -/
def changeT (L : List Att) (k : Nat) (z : Txt) (told : List Txt) : List Att × Nat :=
  if (deedP k (cont2 L z) told).2 ≠ 0 then (L, (deedP k (cont2 L z) told).2) else
  let d := (deedP k (cont2 L z) told).1
  let L' := if d.length = 0 then adel2 L z else aput2 L (z, d)
  (L', if longN L'.length d.length = true then 3 else 0)
def ChgQ (L : List Att) (k : Nat) (z : Txt) (told : List Txt) (b base : Nat) (w : World) (e : Ending) (w' : World) : Prop :=
  ∃ T', e = .returned (.int .i64 ((changeT L k z told).2 : Nat)) ∧ TabI w' b base T' ∧ ents T' = (changeT L k z told).1 ∧ Keeps [b] w w'
end Go.Proofs.YtebocagkpkpghaaGreatDoor
/- entry: change; walked. -/
namespace Go.Proofs.YtebocagkpkpghaaGreatDoor
open Go.RowKit Go.Maps Go.ChangeMaps Go.MapKept
set_option linter.unusedVariables false
set_option linter.unusedSimpArgs false
set_option maxRecDepth 100000

theorem deed_enter (k : Nat) (args : Array Value) (w : World) : (callFunc (deedN k) args).run Tryz.prog w = .ok (.enter (deedN k) args) w := by
  unfold deedN
  split
  · first | rfl | go_simp
  · split
    · first | rfl | go_simp
    · first | rfl | go_simp
theorem cells3 {w : World} {g : Nat} {a b c : Value} {t : TypeId} (h : w.heap[g]? = some (.cells #[a, b, c] t (0, 0))) : w.cell? ⟨g, 0, none⟩ = some a ∧ w.cell? ⟨g, 1, none⟩ = some b ∧ w.cell? ⟨g, 2, none⟩ = some c := by
  simp [World.cell?, h]
set_option maxHeartbeats 8000000 in
theorem change_is (k b base tn tc : Nat) (tA : Option Addr) (nm : Txt) (told : List Txt) (T : List At7) (w : World) (hk : 1 ≤ k ∧ k ≤ 3) (h : TabI w b base T) (hbs : base ≤ w.heap.size) (hnm : nm.length ≤ 9223372036854775807) (ht : StrsIn w tA tn told) (htn : tn ≤ 100000) (hT : T.length ≤ 10000) (hTn : ∀ a ∈ T, a.n ≤ 100000) :
    Calls Tryz.prog 34 #[.map (some b), .agg #[.int .i64 (k : Int), tv nm, .slice tA tn tc]] w (ChgQ (ents T) k (smallL nm) told b base w) := by
  have hk3 : k = 1 ∨ k = 2 ∨ k = 3 := by omega
  have HK3 := Lib.hid hk3
  have HTB := Lib.hid h
  have HTL := Lib.hid hT
  have HBS := Lib.hid hbs
  have HTN := Lib.hid ht
  unfold tv
  have HK0 : Hid (Keeps [] w (w.alloc (.cells #[.int .i64 (k : Int), .string ⟨nm.toArray⟩, .slice tA tn tc] 49))) := (Keeps.refl [] w).alloc _
  have hb0 := heap_new8 w (.cells #[.int .i64 (k : Int), .string ⟨nm.toArray⟩, .slice tA tn tc] 49)
  obtain ⟨W0, hW0⟩ : ∃ W0, w.alloc (.cells #[.int .i64 (k : Int), .string ⟨nm.toArray⟩, .slice tA tn tc] 49) = W0 := ⟨_, rfl⟩
  rw [hW0] at HK0 hb0
  have hwz := hb0
  obtain ⟨g, hg⟩ : ∃ g, w.heap.size = g := ⟨_, rfl⟩
  rw [hg] at hb0
  have HSM := Lib.hid (small_is nm W0 hnm)
  have hzl : (smallL nm).length ≤ 9223372036854775807 := by rw [smallL_len]; exact hnm
  obtain ⟨z, hz⟩ : ∃ z, smallL nm = z := ⟨_, rfl⟩
  rw [hz] at HSM hzl ⊢
  have HZL := Lib.hid hzl
  obtain ⟨A0, n0, c0, hval, hlen, hrow, htxt, hap⟩ := h.at_ z
  have hn0 : n0 ≤ 100000 := by
    rw [← hlen]
    unfold cont
    cases hg9 : aget T z with
    | none => simp
    | some a =>
      have h1 := (aget_mem hg9).1
      show a.vs.length ≤ _
      rw [(h.rows a h1).1.len]
      exact hTn a h1
  have HH := Lib.hid (StrsIn.of_own hrow hlen htxt)
  have HF : Hid (∀ X, Keeps [] W0 X → (X.cell? ⟨g, 0, none⟩ = some (.int .i64 (k : Int)) ∧ X.cell? ⟨g, 1, none⟩ = some (.string ⟨nm.toArray⟩) ∧ X.cell? ⟨g, 2, none⟩ = some (.slice tA tn tc)) ∧ (Instr.lookup 63 (.map (some b)) (.string ⟨z.toArray⟩) false).run Tryz.prog X = .ok (.slice A0 n0 c0) X) := fun X hX => by
    refine ⟨cells3 (blk_keep hb0 hX (by simp)), ?_⟩
    have h9 := run_vlook (h.keep (HK0.out.trans' hX) (by simp)).map 63 Tryz.underlying63 z (by unfold maxLen; omega)
    rw [hval] at h9
    exact h9
  obtain ⟨D, hD⟩ : ∃ D, deedP k (cont T z) told = D := ⟨_, rfl⟩
  have hsub := deed_sub k (cont T z) told
  have HDE0 := Lib.hid (fun X (hX : Keeps [] w X) => deed_is k A0 tA n0 c0 tn tc (cont T z) told X (StrsIn.grow hX (StrsIn.of_own hrow hlen htxt)) (StrsIn.grow hX ht) hn0 htn)
  rw [hD] at hsub HDE0
  have HDX : Hid (∀ s ∈ D.1, s.length ≤ 9223372036854775807) := fun s hs => by
    rcases hsub s hs with h9 | h9
    · exact htxt s h9
    · exact ht.2.1 s h9
  obtain ⟨dv, dn⟩ := D
  obtain ⟨dl, hdl⟩ : ∃ dl, dv.length = dl := ⟨_, rfl⟩
  unfold DeedQ at HDE0
  dsimp only at HDE0 HDX
  rw [hdl] at HDE0
  have HDL := Lib.hid hdl
  have HC : Hid (changeT (ents T) k z told = if dn ≠ 0 then (ents T, dn) else ((if dl = 0 then adel2 (ents T) z else aput2 (ents T) (z, dv)), if longN (if dl = 0 then adel2 (ents T) z else aput2 (ents T) (z, dv)).length dl = true then 3 else 0)) := by
    show _ = _
    unfold changeT
    rw [ents_cont, hD]
    dsimp only
    rw [hdl]
  unfold ChgQ
  obtain ⟨P, hP⟩ : ∃ P, changeT (ents T) k z told = P := ⟨_, rfl⟩
  rw [hP] at HC ⊢
  clear hP hD hdl hsub hval hlen hrow htxt h ht hT hTn hn0 hz hzl hwz hap
  have hk0 : (0 : Int) ≤ (k : Int) := by omega
  go_enter Tryz.func34, Tryz.ntmps34
  go_wp2_with fail
  try simp only [hW0, hg]
  refine wp_scope_once 0 rfl ?_
  obtain ⟨⟨d0, d1, d2⟩, hlk⟩ := HF.out W0 (Keeps.refl _ _)
  go_wp2_with fail
  refine HSM.out.mono ?_
  rintro e W1 ⟨rfl, hk1⟩
  have HF1 : Hid (∀ X, Keeps [] W1 X → (X.cell? ⟨g, 0, none⟩ = some (.int .i64 (k : Int)) ∧ X.cell? ⟨g, 1, none⟩ = some (.string ⟨nm.toArray⟩) ∧ X.cell? ⟨g, 2, none⟩ = some (.slice tA tn tc)) ∧ (Instr.lookup 63 (.map (some b)) (.string ⟨z.toArray⟩) false).run Tryz.prog X = .ok (.slice A0 n0 c0) X) := fun X hX => HF.out X (hk1.trans' hX)
  have HK1 : Hid (Keeps [] w W1) := HK0.out.trans' hk1
  have HDE := Lib.hid (fun X (hX : Keeps [] W1 X) => HDE0.out X (HK1.out.trans' hX))
  clear HF HDE0 hk1 d0 d1 d2 hlk
  have HF := HF1
  clear HF1
  go_wp2_with fail
  refine wp_region_held_drew (S := (fun X => (X.cell? ⟨g, 0, none⟩ = some (.int .i64 (k : Int)) ∧ X.cell? ⟨g, 1, none⟩ = some (.string ⟨nm.toArray⟩) ∧ X.cell? ⟨g, 2, none⟩ = some (.slice tA tn tc)) ∧ (Instr.lookup 63 (.map (some b)) (.string ⟨z.toArray⟩) false).run Tryz.prog X = .ok (.slice A0 n0 c0) X)) (by kernel_rfl) (HF.out _ ((Keeps.refl [] W1).drew)) ?_
  intro HS
  refine wpAnyH_take (i := 1) (v := .pointer (some ⟨g, 0, none⟩)) rfl (by kernel_rfl) (by kernel_rfl) (by kernel_rfl) (fun _ _ _ h => h) (Or.inl ⟨by kernel_rfl, ?_⟩) HS ?_
  · intro w5 hw5
    obtain ⟨⟨d0, d1, d2⟩, hlk⟩ := hw5
    go_simp
  simp only [List.getElem_toArray, List.getElem_cons_succ, List.getElem_cons_zero, Act.put, List.setIfInBounds_toArray, List.set_cons_zero, List.set_cons_succ]
  refine wpAnyH_take (i := 2) (v := .int .i64 (k : Int)) rfl (by kernel_rfl) (by kernel_rfl) (by kernel_rfl) (fun _ _ _ h => h) (Or.inl ⟨by kernel_rfl, ?_⟩) HS ?_
  · intro w5 hw5
    obtain ⟨⟨d0, d1, d2⟩, hlk⟩ := hw5
    go_simp
  simp only [List.getElem_toArray, List.getElem_cons_succ, List.getElem_cons_zero, Act.put, List.setIfInBounds_toArray, List.set_cons_zero, List.set_cons_succ]
  refine wpAnyH_take (i := 4) (v := .map (some b)) rfl (by kernel_rfl) (by kernel_rfl) (by kernel_rfl) (fun _ _ _ h => h) (Or.inl ⟨by kernel_rfl, ?_⟩) HS ?_
  · intro w5 hw5
    obtain ⟨⟨d0, d1, d2⟩, hlk⟩ := hw5
    go_simp
  simp only [List.getElem_toArray, List.getElem_cons_succ, List.getElem_cons_zero, Act.put, List.setIfInBounds_toArray, List.set_cons_zero, List.set_cons_succ]
  refine wpAnyH_take (i := 5) (v := .string ⟨z.toArray⟩) rfl (by kernel_rfl) (by kernel_rfl) (by kernel_rfl) (fun _ _ _ h => h) (Or.inl ⟨by kernel_rfl, ?_⟩) HS ?_
  · intro w5 hw5
    obtain ⟨⟨d0, d1, d2⟩, hlk⟩ := hw5
    go_simp
  simp only [List.getElem_toArray, List.getElem_cons_succ, List.getElem_cons_zero, Act.put, List.setIfInBounds_toArray, List.set_cons_zero, List.set_cons_succ]
  refine wpAnyH_take (i := 6) (v := .slice A0 n0 c0) rfl (by kernel_rfl) (by kernel_rfl) (by kernel_rfl) (fun _ _ _ h => h) (Or.inl ⟨by kernel_rfl, ?_⟩) HS ?_
  · intro w5 hw5
    obtain ⟨⟨d0, d1, d2⟩, hlk⟩ := hw5
    go_simp
  simp only [List.getElem_toArray, List.getElem_cons_succ, List.getElem_cons_zero, Act.put, List.setIfInBounds_toArray, List.set_cons_zero, List.set_cons_succ]
  refine wpAnyH_take (i := 7) (v := .pointer (some ⟨g, 2, none⟩)) rfl (by kernel_rfl) (by kernel_rfl) (by kernel_rfl) (fun _ _ _ h => h) (Or.inl ⟨by kernel_rfl, ?_⟩) HS ?_
  · intro w5 hw5
    obtain ⟨⟨d0, d1, d2⟩, hlk⟩ := hw5
    go_simp
  simp only [List.getElem_toArray, List.getElem_cons_succ, List.getElem_cons_zero, Act.put, List.setIfInBounds_toArray, List.set_cons_zero, List.set_cons_succ]
  refine wpAnyH_take (i := 8) (v := .slice tA tn tc) rfl (by kernel_rfl) (by kernel_rfl) (by kernel_rfl) (fun _ _ _ h => h) (Or.inl ⟨by kernel_rfl, ?_⟩) HS ?_
  · intro w5 hw5
    obtain ⟨⟨d0, d1, d2⟩, hlk⟩ := hw5
    go_simp
  simp only [List.getElem_toArray, List.getElem_cons_succ, List.getElem_cons_zero, Act.put, List.setIfInBounds_toArray, List.set_cons_zero, List.set_cons_succ]
  refine wpAnyH_ready (rs := [0]) (by kernel_rfl) (by simp) ?_
  refine AllReadyH.cons rfl (fun K hK => ?_) AllReadyH.nil
  go_simp
  refine (deeds_is _).mono ?_
  rintro e w6 ⟨rfl, hk6⟩
  have K6 : Hid (Keeps [] W1 w6) := Keeps.trans' ((Keeps.refl [] W1).drew) hk6
  clear hk6
  refine hK.out _ _ (HF.out _ K6.out) (fun HS => ?_)
  clear hK K
  refine wpAnyH_take (i := 3) (v := .func (.func (deedN k)) #[] #[]) rfl (by kernel_rfl) (by kernel_rfl) (by kernel_rfl) (fun _ _ _ h => h) (Or.inl ⟨by kernel_rfl, ?_⟩) HS ?_
  · intro w5 hw5
    obtain ⟨⟨d0, d1, d2⟩, hlk⟩ := hw5
    go_simp
    rcases HK3.out with h3 | h3 | h3 <;> subst h3 <;> first | done | rfl | (unfold deedsV; go_simp) | (unfold deedsV; go_simp; rfl)
  simp only [List.getElem_toArray, List.getElem_cons_succ, List.getElem_cons_zero, Act.put, List.setIfInBounds_toArray, List.set_cons_zero, List.set_cons_succ]
  refine wpAnyH_ready (rs := [9]) (by kernel_rfl) (by simp) ?_
  refine AllReadyH.cons rfl (fun K hK => ?_) AllReadyH.nil
  go_simp
  rw [deed_enter k, Oper.upon_enter]
  refine (HDE.out _ K6.out).mono ?_
  rintro e w7 hq7
  obtain ⟨A7, c7, rfl, ho7, hk7⟩ := hq7
  have K7 : Hid (Keeps [] W1 w7) := Keeps.trans' K6.out hk7
  have HO7 := Lib.hid ho7
  have HKB := Lib.hid hk7.size
  clear ho7 hk7
  refine hK.out _ _ (HF.out _ K7.out) (fun HS => ?_)
  clear hK K
  refine wpAnyH_take (i := 10) (v := .tuple #[.slice A7 dl c7, .int .i64 (dn : Int)]) rfl (by kernel_rfl) (by kernel_rfl) (by kernel_rfl) (fun _ _ _ h => h) (Or.inl ⟨by kernel_rfl, ?_⟩) HS ?_
  · intro w5 hw5
    obtain ⟨⟨d0, d1, d2⟩, hlk⟩ := hw5
    go_simp
  simp only [List.getElem_toArray, List.getElem_cons_succ, List.getElem_cons_zero, Act.put, List.setIfInBounds_toArray, List.set_cons_zero, List.set_cons_succ]
  refine wpAnyH_take (i := 11) (v := .slice A7 dl c7) rfl (by kernel_rfl) (by kernel_rfl) (by kernel_rfl) (fun _ _ _ h => h) (Or.inl ⟨by kernel_rfl, ?_⟩) HS ?_
  · intro w5 hw5
    obtain ⟨⟨d0, d1, d2⟩, hlk⟩ := hw5
    go_simp
  simp only [List.getElem_toArray, List.getElem_cons_succ, List.getElem_cons_zero, Act.put, List.setIfInBounds_toArray, List.set_cons_zero, List.set_cons_succ]
  refine wpAnyH_take (i := 12) (v := .int .i64 (dn : Int)) rfl (by kernel_rfl) (by kernel_rfl) (by kernel_rfl) (fun _ _ _ h => h) (Or.inl ⟨by kernel_rfl, ?_⟩) HS ?_
  · intro w5 hw5
    obtain ⟨⟨d0, d1, d2⟩, hlk⟩ := hw5
    go_simp
  simp only [List.getElem_toArray, List.getElem_cons_succ, List.getElem_cons_zero, Act.put, List.setIfInBounds_toArray, List.set_cons_zero, List.set_cons_succ]
  refine wpAnyH_take (i := 13) (v := .slice A7 dl c7) rfl (by kernel_rfl) (by kernel_rfl) (by kernel_rfl) (fun _ _ _ h => h) (Or.inl ⟨by kernel_rfl, ?_⟩) HS ?_
  · intro w5 hw5
    obtain ⟨⟨d0, d1, d2⟩, hlk⟩ := hw5
    go_simp
  simp only [List.getElem_toArray, List.getElem_cons_succ, List.getElem_cons_zero, Act.put, List.setIfInBounds_toArray, List.set_cons_zero, List.set_cons_succ]
  refine wpAnyH_take (i := 14) (v := .int .i64 (dn : Int)) rfl (by kernel_rfl) (by kernel_rfl) (by kernel_rfl) (fun _ _ _ h => h) (Or.inl ⟨by kernel_rfl, ?_⟩) HS ?_
  · intro w5 hw5
    obtain ⟨⟨d0, d1, d2⟩, hlk⟩ := hw5
    go_simp
  simp only [List.getElem_toArray, List.getElem_cons_succ, List.getElem_cons_zero, Act.put, List.setIfInBounds_toArray, List.set_cons_zero, List.set_cons_succ]
  refine wpAnyH_done (by kernel_rfl) ?_ _
  have HK7w : Hid (Keeps [] w w7) := HK1.out.trans' K7.out
  have HT7 : Hid (TabI w7 b base T) := HTB.out.keep HK7w.out (by simp)
  have HB6 : Hid (w.heap.size ≤ w6.heap.size) := Nat.le_trans HK1.out.size K6.out.size
  have HO8 : Hid (w7.ownsRow base 9 1 (.slice A7 dl c7) dl (dv.map tv)) := own_base7 HO7.out (by have := HB6.out; have := HBS.out; omega)
  have HAP : Hid (∀ a ∈ T, a.name ≠ z → a.val.ownBlock ≠ (Value.slice A7 dl c7).ownBlock) := fun a ha _ e => by
    obtain ⟨q, h1, _, h3, _⟩ := (HTB.out.rows a ha).1.blk (HTB.out.rows a ha).2
    have h4 := (HO7.out.lt q (by rw [← e, h1])).1
    have := HB6.out
    omega
  clear HS HDE HF HH HSM
  by_cases h0 : dn = 0
  · subst h0
    rw [if_neg (by simp)] at HC
    by_cases hl0 : dl = 0
    · subst hl0
      rw [if_pos rfl] at HC
      go_wp2_with fail
      refine (put_none b base T z A7 c7 w7 (HT7.out.but z) HZL.out).mono ?_
      rintro e w8 ⟨⟨v8, rfl⟩, ht8, hk8⟩
      obtain ⟨T', hT'⟩ : ∃ T', adel T z = T' := ⟨_, rfl⟩
      rw [hT'] at ht8
      have HE8 : Hid (ents T' = adel2 (ents T) z) := by show _ = _; rw [← hT', ents_del]
      have hlT : T'.length ≤ 10001 := by rw [← hT']; have := adel_len T z; have := HTL.out; omega
      rw [← HE8.out] at HC
      have HT8 := Lib.hid ht8
      have HK8 : Hid (Keeps [b] w w8) := (HK7w.out.mono (cs := [b]) (by simp)).trans' hk8
      have hln := fun ty => run_vlen ht8.map 63 Tryz.underlying63 ty
      rw [vt_len] at hln
      rw [ents_len] at HC
      obtain ⟨m, hm⟩ : ∃ m, T'.length = m := ⟨_, rfl⟩
      rw [hm] at hln HC hlT
      have HIL := Lib.hid (islong_is m 0 w8)
      obtain ⟨q, hq⟩ : ∃ q, longN m 0 = q := ⟨_, rfl⟩
      rw [hq] at HIL HC
      clear ht8 hk8 hq hm hT'
      go_wp2_with fail
      refine HIL.out.mono ?_
      rintro e w9 ⟨rfl, rfl⟩
      cases q
      · go_wp2_with fail
        simp only [Exit.jump]
        go_ret
        rw [HC.out]
        exact ⟨T', rfl, HT8.out, rfl, HK8.out⟩
      · go_wp2_with fail
        go_step3
        refine ⟨rfl, ?_⟩
        go_wp2
        rw [Exit.noGoto_ret]
        go_ret
        rw [HC.out]
        exact ⟨T', rfl, HT8.out, rfl, HK8.out⟩
    · rw [if_neg hl0] at HC
      have hpos : 0 < dl := Nat.pos_of_ne_zero hl0
      go_wp2_with fail
      refine (put_some b base T ⟨z, A7, dl, c7, dv⟩ w7 (HT7.out.but z) ⟨HO8.out, HDL.out, HDX.out, HZL.out⟩ hpos HAP.out (by have := HTL.out; omega)).mono ?_
      rintro e w8 ⟨⟨v8, rfl⟩, ht8, hk8⟩
      obtain ⟨T', hT'⟩ : ∃ T', aput T ⟨z, A7, dl, c7, dv⟩ = T' := ⟨_, rfl⟩
      rw [hT'] at ht8
      have HE8 : Hid (ents T' = aput2 (ents T) (z, dv)) := by show _ = _; rw [← hT', ents_put]; rfl
      have hlT : T'.length ≤ 10001 := by rw [← hT']; have := aput_len T ⟨z, A7, dl, c7, dv⟩; have := HTL.out; omega
      rw [← HE8.out] at HC
      have HT8 := Lib.hid ht8
      have HK8 : Hid (Keeps [b] w w8) := (HK7w.out.mono (cs := [b]) (by simp)).trans' hk8
      have hln := fun ty => run_vlen ht8.map 63 Tryz.underlying63 ty
      rw [vt_len] at hln
      rw [ents_len] at HC
      obtain ⟨m, hm⟩ : ∃ m, T'.length = m := ⟨_, rfl⟩
      rw [hm] at hln HC hlT
      have HIL := Lib.hid (islong_is m dl w8)
      obtain ⟨q, hq⟩ : ∃ q, longN m dl = q := ⟨_, rfl⟩
      rw [hq] at HIL HC
      clear ht8 hk8 hq hm hT'
      go_wp2_with fail
      refine HIL.out.mono ?_
      rintro e w9 ⟨rfl, rfl⟩
      cases q
      · go_wp2_with fail
        simp only [Exit.jump]
        go_ret
        rw [HC.out]
        exact ⟨T', rfl, HT8.out, rfl, HK8.out⟩
      · go_wp2_with fail
        go_step3
        refine ⟨rfl, ?_⟩
        go_wp2
        rw [Exit.noGoto_ret]
        go_ret
        rw [HC.out]
        exact ⟨T', rfl, HT8.out, rfl, HK8.out⟩
  · rw [if_pos h0] at HC
    have hd0 : ¬ (dn : Int) = 0 := by omega
    have hdb : ((dn : Int) == 0) = false := by simp; omega
    go_wp2_with fail
    go_step3
    refine ⟨rfl, ?_⟩
    go_wp2
    rw [Exit.noGoto_ret]
    go_ret
    rw [HC.out]
    exact ⟨T, rfl, HT7.out, rfl, HK7w.out.mono (by simp)⟩
end Go.Proofs.YtebocagkpkpghaaGreatDoor
