/- Texts of one proof, laid together: N31. -/
import Derived.Test.YtmgkejgmkfeccaaDoorM16
/- dn: the name whose text it is; walked. -/
namespace Go.Proofs.YtmgkejgmkfeccaaDoor
open Go.RowKit Go.Shelf
set_option linter.unusedVariables false
set_option linter.unusedSimpArgs false
set_option maxRecDepth 100000

set_option maxHeartbeats 16000000 in
theorem nameof6_is (T : List UInt8) (w : World) (hl : T.length ≤ 1000000000) (hs : SynAt w) :
    Calls Tryd.prog 20 #[.string ⟨T.toArray⟩] w fun e w' => NamQ T w e w' := by
  obtain ⟨iu, hiu, hzu0, hzu1, hzu2⟩ := info_parts rdn_info
  have HS0 := Lib.hid hs
  have HAM := Lib.hid (allmarks_is w)
  have HIN := Lib.hid (NamI.start T)
  obtain ⟨em, hem⟩ : ∃ em, T.isEmpty = em := ⟨_, rfl⟩
  rw [hem] at HIN
  have HLL := Lib.hid hl
  clear hs hl
  go_enter Tryd.func20, Tryd.ntmps20
  go_wp2_with fail
  refine HAM.out.mono ?_
  rintro e w1 ⟨bm, rfl, hbm, hmk, hk1⟩
  have HK1 := Lib.hid hk1
  have HM1 := Lib.hid hmk
  have hsz1 := hk1.size
  have hbl := World.ownsMap.lt hmk
  clear hmk hk1 hbm
  go_wp2_with fail
  refine (cutter_is T _).mono ?_
  rintro e w2 ⟨p, g, rfl, hp, hg, hgp, hpl, hgl, hk2⟩
  have HK2 := Lib.hid (HK1.out.trans' hk2)
  have HP2 : Hid (p < w2.heap.size) := hp.lt
  have HB2 := Lib.hid hp
  have HGP := Lib.hid hgp
  have HWP : Hid (w.heap.size ≤ p) := by show _ ≤ _; omega
  have HT : Hid (∀ X, Keeps [p] w2 X → Box1 X g 9 (.string ⟨T.toArray⟩)) := fun X hk => hg.keep hk (by simpa using hgp)
  have HM : Hid (∀ X, Keeps [p] w2 X → MarksAt X bm) := fun X hk => (HM1.out.keep hk2 (by simp)).keep hk (by simp; omega)
  have HS : Hid (∀ X, Keeps [p] w2 X → SynAt X) := fun X hk => (HS0.out.keep HK2.out (by simp)).keep hk (by have := HS0.out.lt; simp; omega)
  clear hp hg hgp hpl hgl hk2 hsz1 hbl
  go_wp2_with fail
  go_loopw [3, 6] (fun d m wr => ∃ (A : Option Addr) (an cc : Nat) (mo : Bool) (k : Nat) (acc : List Part6), d = .slice A an cc ∧ m = .bool mo ∧ Hid (NamS T p w2 wr A an cc mo k acc)) (fun d m wr => mes6 m (T.length + 2 - placeOf wr p))
  case atStart => exact ⟨none, 0, 0, !em, 0, [], rfl, rfl, HIN.out, rfl, rfl, HB2.out, World.ownsRow_nil _ _ _ _, Keeps.refl _ _⟩
  case round =>
    obtain ⟨A, an, cc, mo, k, acc, rfl, rfl, HV⟩ := hrel
    cases mo
    · have HR : Hid (NamQ T w (.returned (.slice A an cc)) wr) := by
        have h9 := HV.out.inv.2 rfl
        have h8 := nameOk_parts HV.out.ok
        refine ⟨fun d h => ?_, fun h => ?_, HK2.out.trans HV.out.keep (fun x hx => .inr (by simp at hx; subst hx; exact HWP.out))⟩
        · rw [h9] at h
          injection h with h
          subst h
          exact ⟨A, an, cc, rfl, by rw [← HV.out.len]; exact h8.1, DnIn.of_own HV.out.row HV.out.len h8.2⟩
        · rw [h9] at h
          cases h
      go_wp2_with fail
      go_ret
      exact HR.out
    · have hkl : k ≤ T.length := (HV.out.inv.1 rfl).1
      have HPK := Lib.hid (placeOf_is HV.out.box.cell)
      have HKL := Lib.hid hkl
      have HC1 := Lib.hid (cutter1_is T 61 p g k wr (by have := HLL.out; omega) hkl (by decide) HV.out.box (HT.out wr HV.out.keep) HGP.out)
      have HBAD : Hid (∀ X, Keeps [p] w2 X → nameL (T.drop k) acc = none → NamQ T w (gaveUp 160) X) := fun X hk h9 => by
        have h8 := (HV.out.inv.1 rfl).2
        rw [h9] at h8
        exact ⟨fun d h => (by rw [h8] at h; cases h), fun _ => rfl, HK2.out.trans hk (fun x hx => .inr (by simp at hx; subst hx; exact HWP.out))⟩
      clear hkl
      rw [show (((61 : UInt8).toNat : Nat) : Int) = 61 from rfl] at HC1
      go_wp2_with fail
      refine HC1.out.mono ?_
      rintro e w3 ⟨q, rfl, hb3, hr3, hk3⟩
      have HB3 := Lib.hid hb3
      have HKR3 := Lib.hid hk3
      have HKW3 : Hid (Keeps [p] w2 w3) := HV.out.keep.trans hk3 (fun x hx => .inl hx)
      have hkdl := cutL_len 61 (T.drop k)
      have hkd2 : (cutL 61 (T.drop k)).1.length ≤ 1000000000 := by rw [List.length_drop] at hkdl; have := HLL.out; omega
      cases ho1 : (cutL 61 (T.drop k)).2 with
      | none =>
        have HR := Lib.hid (HBAD.out w3 HKW3.out (nameL_noeq ho1))
        generalize (cutL 61 (T.drop k)).1 = kd at *
        clear ho1 hr3 hb3 hk3 hkdl hkd2
        go_wp2_with fail
        refine (must_is false _).mono ?_
        rintro e w5 ⟨h, rfl⟩
        rcases h with ⟨h, _⟩ | ⟨_, rfl⟩
        · cases h
        · go_wp2_with fail
          exact ⟨rfl, HR.out⟩
      | some r1 =>
        obtain ⟨hql, hqd⟩ := hr3 r1 ho1
        have HO1 := Lib.hid ho1
        have hr1l := cutL_lt ho1
        have HR1L : Hid (r1.length ≤ 1000000000) := by show _ ≤ _; rw [List.length_drop] at hr1l; have := HLL.out; omega
        have hqk : k < q := by
          rw [List.length_drop, ← hqd, List.length_drop] at hr1l
          omega
        have HC2 := Lib.hid (cutter1_is T 44 p g q w3 (by have := HLL.out; omega) hql (by decide) HB3.out (HT.out w3 HKW3.out) HGP.out)
        rw [show (((44 : UInt8).toNat : Nat) : Int) = 44 from rfl, hqd] at HC2
        have HNV : Hid (valL (cutL 44 r1).1.length (cutL 44 r1).1 = none → nameL (T.drop k) acc = none) := nameL_noval ho1
        have HNB : Hid (∀ v, valL (cutL 44 r1).1.length (cutL 44 r1).1 = some v → nameOk (acc ++ [(smallL (cutL 61 (T.drop k)).1, v)]) = false → nameL (T.drop k) acc = none) := fun v h h2 => nameL_bad ho1 h h2
        have HNE : Hid (∀ v, valL (cutL 44 r1).1.length (cutL 44 r1).1 = some v → nameOk (acc ++ [(smallL (cutL 61 (T.drop k)).1, v)]) = true → (cutL 44 r1).2 = none → nameL (T.drop k) acc = some (acc ++ [(smallL (cutL 61 (T.drop k)).1, v)])) := fun v h h2 h3 => nameL_end ho1 h h2 h3
        have HNM : Hid (∀ v r2, valL (cutL 44 r1).1.length (cutL 44 r1).1 = some v → nameOk (acc ++ [(smallL (cutL 61 (T.drop k)).1, v)]) = true → (cutL 44 r1).2 = some r2 → nameL (T.drop k) acc = nameL r2 (acc ++ [(smallL (cutL 61 (T.drop k)).1, v)])) := fun v r2 h h2 h3 => nameL_more ho1 h h2 h3
        have HVL := Lib.hid (cutL_len 44 r1)
        have HLT : Hid (∀ r2, (cutL 44 r1).2 = some r2 → r2.length < r1.length) := fun r2 h => cutL_lt h
        have HQK := Lib.hid hqk
        have HQL := Lib.hid hql
        have HQD := Lib.hid hqd
        generalize (cutL 61 (T.drop k)).1 = kd at *
        clear ho1 hr3 hb3 hk3 hkdl hr1l hqk hql hqd HNV
        have HNV : Hid (valL (cutL 44 r1).1.length (cutL 44 r1).1 = none → nameL (T.drop k) acc = none) := nameL_noval HO1.out
        go_wp2_with fail
        refine (must_is true _).mono ?_
        rintro e w5 ⟨h, rfl⟩
        rcases h with ⟨_, rfl⟩ | ⟨h, _⟩
        · go_wp2_with fail
          refine HC2.out.mono ?_
          rintro e w4 ⟨q2, rfl, hb4, hr4, hk4⟩
          have HB4 := Lib.hid hb4
          have HKR4 : Hid (Keeps [p] wr w4) := HKR3.out.trans hk4 (fun x hx => .inl hx)
          have HKW4 : Hid (Keeps [p] w2 w4) := HKW3.out.trans hk4 (fun x hx => .inl hx)
          have HR4 := Lib.hid hr4
          have HSM := Lib.hid (fun X => small_is kd X (by omega))
          have HVO := Lib.hid (fun X (hk : Keeps [p] w2 X) => valueof6_is (cutL 44 r1).1 bm X (by have := HVL.out; have := HR1L.out; omega) (HM.out X hk) (HS.out X hk))
          have HVLEN := Lib.hid (fun v h => valL_len (cutL 44 r1).1.length (cutL 44 r1).1 v h)
          generalize (cutL 44 r1).1 = vl at *
          clear hb4 hk4 hr4
          obtain ⟨o2, ho2⟩ : ∃ o2, (cutL 44 r1).2 = o2 := ⟨_, rfl⟩
          rw [ho2] at HNE HNM HR4 HLT ⊢
          clear ho2
          obtain ⟨sk, hsk⟩ : ∃ sk, smallL kd = sk := ⟨_, rfl⟩
          have HSKL : Hid (sk.length ≤ 1000000000) := by show _ ≤ _; rw [← hsk, smallL_len]; exact hkd2
          rw [hsk] at HSM HNB HNE HNM
          have HRL := HR1L
          clear hsk hkd2
          go_wp2_with fail
          refine (HSM.out _).mono ?_
          rintro e w5 ⟨rfl, hk5⟩
          have HB5 := Lib.hid (HB4.out.keep hk5 (by simp))
          have HKR5 : Hid (Keeps [p] wr w5) := HKR4.out.trans hk5 (fun x hx => by cases hx)
          have HKW5 : Hid (Keeps [p] w2 w5) := HKW4.out.trans hk5 (fun x hx => by cases hx)
          clear hk5
          go_wp2_with fail
          refine (HVO.out _ HKW5.out).mono ?_
          rintro e w6 ⟨hv1, hv2, hk6⟩
          have HB6 := Lib.hid (HB5.out.keep hk6 (by simp))
          have HKR6 : Hid (Keeps [p] wr w6) := HKR5.out.trans hk6 (fun x hx => by cases hx)
          have HKW6 : Hid (Keeps [p] w2 w6) := HKW5.out.trans hk6 (fun x hx => by cases hx)
          cases hvv : valL vl.length vl with
          | none =>
            obtain rfl := hv2 hvv
            have HR := Lib.hid (HBAD.out w6 HKW6.out (HNV.out hvv))
            clear hv1 hv2 hk6 hvv
            go_wp2_with fail
            exact ⟨rfl, HR.out⟩
          | some v =>
            obtain rfl := hv1 v hvv
            have HVL2 : Hid (v.length ≤ 1000000000) := by show _ ≤ _; have h7 := HVLEN.out v hvv; have h8 := HVL.out; have h9 := HRL.out; omega
            have HNB2 := Lib.hid (HNB.out v hvv)
            have HNE2 := Lib.hid (HNE.out v hvv)
            have HNM2 := Lib.hid (fun r2 => HNM.out v r2 hvv)
            have han : an ≤ 16 := by have h8 := (nameOk_parts HV.out.ok).1; have h9 := HV.out.len; omega
            have HNP := Lib.hid (HV.out.apart HP2.out)
            clear hv1 hv2 hk6 hvv
            go_wp2_with (at_builtin; refine wpList_append_opt rfl (.tmp 28) (.tmp 35) 24 rfl w2.heap.size 53 iu _ 2 32 Tryd.underlying24 hiu hzu0 hzu1 hzu2 rfl (by decide) (.slice A an cc) an (dnCells acc) rfl (own_keep HV.out.row (HKR6.out.alloc _) HNP.out) (some ⟨w6.heap.size, 0, none⟩) 1 1 [tv sk, tv v] rfl rfl (src_two6 w6 _ _ _) (by intro u hu; simp at hu; rcases hu with rfl | rfl <;> rfl) (by unfold maxLen; omega) (by omega) (by have := HKW6.out.size; simp; omega) ?_; intro v7 w7 ho7 hg7 hs7; obtain ⟨VB, vd, hv7, hb7, ho8, hk7⟩ := HV.out.more HP2.out HB6.out HKR6.out ho7 hg7; subst hv7; have HB7 := Lib.hid hb7; have HO7 := Lib.hid ho8; have HKW7 := Lib.hid hk7; clear ho7 hg7 hs7 hb7 ho8 hk7)
            obtain ⟨ac2, hac2⟩ : ∃ ac2, acc ++ [(sk, v)] = ac2 := ⟨_, rfl⟩
            rw [hac2] at HNB2 HNE2 HNM2 HO7
            have HL2 : Hid (ac2.length = an + 1) := by show _ = _; rw [← hac2]; simp [HV.out.len]
            have HP6 : Hid (∀ p ∈ ac2, p.1.length ≤ 9223372036854775807 ∧ p.2.length ≤ 9223372036854775807) := fun p hp => by
              rw [← hac2] at hp
              rcases List.mem_append.1 hp with hp | hp
              · exact (nameOk_parts HV.out.ok).2 p hp
              · simp at hp
                subst hp
                have h8 := HSKL.out
                have h9 := HVL2.out
                constructor <;> dsimp only <;> omega
            have HMB := Lib.hid (maybe6_is w7.heap.size 1 [⟨VB, an + 1, vd, ac2⟩] _ rfl (by decide) (one_name w7 VB (an + 1) vd ac2 24 (by omega) (DnIn.of_own HO7.out HL2.out HP6.out)))
            simp only [List.all_cons, List.all_nil, Bool.and_true] at HMB
            cases hok : nameOk ac2 with
            | false =>
              rw [hok] at HMB
              have HBD := Lib.hid (HNB2.out hok)
              clear hok hac2
              refine HMB.out.mono ?_
              rintro e w8 ⟨rfl, hk8⟩
              have HR := Lib.hid (HBAD.out w8 (HKW7.out.trans (((Keeps.refl [] w7).alloc (.cells #[.slice VB (an + 1) vd] 24)).trans' hk8) (fun x hx => by cases hx)) HBD.out)
              clear hk8
              go_wp2_with fail
              refine (must_is false _).mono ?_
              rintro e w9 ⟨h, rfl⟩
              rcases h with ⟨h, _⟩ | ⟨_, rfl⟩
              · cases h
              · go_wp2_with fail
                exact ⟨rfl, HR.out⟩
            | true =>
              rw [hok] at HMB
              have HOK := Lib.hid hok
              have HNE3 := Lib.hid (HNE2.out hok)
              have HNM3 := Lib.hid (fun r2 => HNM2.out r2 hok)
              clear hok hac2
              refine HMB.out.mono ?_
              rintro e w8 ⟨rfl, hk8⟩
              have HK78 : Hid (Keeps [] w7 w8) := ((Keeps.refl [] w7).alloc (.cells #[.slice VB (an + 1) vd] 24)).trans' hk8
              have HB8 := Lib.hid (HB7.out.keep HK78.out (by simp))
              have HO8 : Hid (w8.ownsRow w2.heap.size 53 2 (.slice VB (an + 1) vd) (an + 1) (dnCells ac2)) := own_keep HO7.out HK78.out (by simp)
              have HKW8 : Hid (Keeps [p] w2 w8) := HKW7.out.trans HK78.out (fun x hx => by cases hx)
              clear hk8
              go_wp2_with fail
              refine (must_is true _).mono ?_
              rintro e w9 ⟨h, rfl⟩
              rcases h with ⟨_, rfl⟩ | ⟨h, _⟩
              · have HNI : Hid (NamI T ac2 o2.isSome q2) := by
                  have h8 := (HV.out.inv.1 rfl).2
                  cases o2 with
                  | none => exact ⟨fun h => (by cases h), fun _ => by rw [h8, HNE3.out rfl]⟩
                  | some r2 => exact ⟨fun _ => ⟨(HR4.out r2 rfl).1, by rw [h8, HNM3.out r2 rfl, (HR4.out r2 rfl).2]⟩, fun h => (by cases h)⟩
                have HNS : Hid (NamS T p w2 w8 VB (an + 1) vd o2.isSome q2 ac2) := ⟨HNI.out, HL2.out, HOK.out, HB8.out, HO8.out, HKW8.out⟩
                have HQ2 : Hid (o2.isSome = true → k < q2) := fun h => by
                  cases o2 with
                  | none => cases h
                  | some r2 =>
                    have h1 := HLT.out r2 rfl
                    obtain ⟨h2, h3⟩ := HR4.out r2 rfl
                    have h4 := HQD.out
                    have h5 := HQK.out
                    have h6 := HQL.out
                    rw [← h3, ← h4, List.length_drop, List.length_drop] at h1
                    omega
                generalize o2.isSome = m2 at *
                go_wp2_with fail
                go_roundw
                case rel => exact ⟨VB, an + 1, vd, m2, q2, ac2, rfl, rfl, HNS.out⟩
                case measure =>
                  have e1 := HPK.out
                  have e2 := placeOf_is HB8.out.cell
                  have e3 := HKL.out
                  cases m2 with
                  | false => simp only [mes6]; rw [e1]; omega
                  | true => have e4 := HQ2.out rfl; simp only [mes6]; rw [e1, e2]; omega
              · cases h
        · cases h

end Go.Proofs.YtmgkejgmkfeccaaDoor
