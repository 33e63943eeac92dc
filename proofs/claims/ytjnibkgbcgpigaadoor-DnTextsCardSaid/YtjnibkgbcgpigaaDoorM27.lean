/- Texts of one proof, laid together: N45. -/
import Derived.Test.YtjnibkgbcgpigaaDoorM26
import Derived.Test.YtjnibkgbcgpigaaDoorM08
import Derived.Test.YtjnibkgbcgpigaaDoorM20
import Derived.Test.YtjnibkgbcgpigaaDoorM12
/- dn: the document's Text; walked. -/
namespace Go.Proofs.YtjnibkgbcgpigaaDoor
open Go.RowKit Go.Shelf
set_option linter.unusedVariables false
set_option linter.unusedSimpArgs false
set_option maxRecDepth 100000

theorem mark_is : ∀ n : Fin 256, mark6 n.val = if sign1 n.val then 7 else if n.val = 35 then 1 else if n.val = 32 then 5 else 0 := by decide +kernel
theorem ask_ref (c : UInt8) (k N : Nat) (hk : k < N) : ask6 (mark6 c.toNat) (plc6 k N) = (sign1 c.toNat || (decide (k = 0) && (decide (c = 32) || decide (c = 35))) || (decide (k + 1 = N) && decide (c = 32))) := by
  have hm := mark_is ⟨c.toNat, c.toNat_lt⟩
  simp only at hm
  have e32 : (c = 32) ↔ c.toNat = 32 := ⟨fun h => by rw [h]; rfl, fun h => UInt8.toNat_inj.1 h⟩
  have e35 : (c = 35) ↔ c.toNat = 35 := ⟨fun h => by rw [h]; rfl, fun h => UInt8.toNat_inj.1 h⟩
  simp only [e32, e35]
  rw [hm]
  cases hs : sign1 c.toNat with
  | true => simp only [if_true]; rw [ask_seven]; rfl
  | false =>
    simp only [Bool.false_eq_true, if_false, Bool.false_or]
    unfold plc6
    by_cases h35 : c.toNat = 35
    · rw [if_pos h35, h35]
      by_cases h0 : k = 0
      · rw [if_pos h0]
        by_cases h1 : N = 1 <;> simp [h0, h1, ask6]
      · rw [if_neg h0]
        by_cases h1 : k + 1 = N <;> simp [h0, h1, ask6]
    · rw [if_neg h35]
      by_cases h32 : c.toNat = 32
      · rw [if_pos h32, h32]
        by_cases h0 : k = 0
        · rw [if_pos h0]
          by_cases h1 : N = 1 <;> simp [h0, h1, ask6]
        · rw [if_neg h0]
          by_cases h1 : k + 1 = N <;> simp [h0, h1, ask6]
      · rw [if_neg h32, ask_zero]
        simp [h35, h32]

/-- The text of the first parts. -/
def preT (d : List Part6) (j : Nat) : List UInt8 := Lib.join ((d.take j).map partT) [44]
theorem preT_zero (d : List Part6) : preT d 0 = [] := by simp [preT, Lib.join_nil]
theorem preT_next {d : List Part6} {j : Nat} {p : Part6} (h : d[j]? = some p) : preT d (j + 1) = (if j = 0 then preT d j else preT d j ++ [44]) ++ partT p := by
  cases d with
  | nil => simp at h
  | cons q r =>
    cases j with
    | zero =>
      simp at h
      subst h
      simp [preT, Lib.join_nil, Lib.join_one]
    | succ j =>
      have h2 : r[j]? = some p := by simpa using h
      rw [if_neg (by omega)]
      have e : ∀ k, preT (q :: r) (k + 1) = partT q ++ Lib.joinTail [44] ((r.map partT).take k) := fun k => by
        unfold preT
        rw [List.take_succ_cons, List.map_cons, Lib.join_cons, List.map_take]
      rw [e, e, Lib.joinTail_take_succ [44] (r.map partT) j (partT p) (by rw [List.getElem?_map, h2]; rfl)]
      simp
theorem preT_len {d : List Part6} (h : nameOk d = true) (j : Nat) : (preT d j).length ≤ 16000 := by
  have h1 : nameOk (d.take j) = true := by
    have h9 := List.take_append_drop j d
    rw [← h9] at h
    exact nameOk_take h
  exact dnT_len h1

set_option maxHeartbeats 16000000 in
theorem rtext_is (A : Option Addr) (n c : Nat) (d : List Part6) (w : World) (h : DnIn w A n d) (hok : nameOk d = true) :
    Calls Tryd.prog 16 #[.slice A n c] w fun e w' => e = .returned (.string ⟨(dnT d).toArray⟩) ∧ Keeps [] w w' := by
  have HD := Lib.hid h
  have HOK := Lib.hid hok
  have hn16 : n ≤ 16 := by have h1 := (nameOk_parts hok).1; have h2 := h.1; omega
  have HP0 := Lib.hid (preT_zero d)
  clear h hok
  go_enter Tryd.func16, Tryd.ntmps16
  go_wp2_with fail
  go_loopw [3, 4] (fun s i wr => ∃ j : Nat, s = .string ⟨(preT d j).toArray⟩ ∧ i = .int .i64 (j : Int) ∧ j ≤ n ∧ Hid (Keeps [] w wr)) (fun _ i _ => n - (intOf i).toNat)
  case atStart => exact ⟨0, by rw [HP0.out], rfl, Nat.zero_le _, Keeps.refl _ _⟩
  case round =>
    obtain ⟨j, rfl, rfl, hj, HKR⟩ := hrel
    by_cases hlt : j < n
    · obtain ⟨hl, hp, hc9⟩ := HD.out.grow HKR.out
      obtain ⟨b, o, hA9, hcc⟩ := hc9 (by omega)
      clear hc9
      subst hA9
      obtain ⟨p, hu⟩ : ∃ p, d[j]? = some p := ⟨_, List.getElem?_eq_getElem (by omega)⟩
      obtain ⟨c0, c1⟩ := hcc j p hu
      have HNXT := Lib.hid (preT_next hu)
      have hpk : partOk p = true := by
        have h9 := HOK.out
        unfold nameOk at h9
        simp only [Bool.and_eq_true, List.all_eq_true] at h9
        exact h9.2 p (List.mem_of_getElem? hu)
      have hpl := partOk_len hpk
      have hprl := preT_len HOK.out j
      obtain ⟨s, v⟩ := p
      unfold partT at HNXT
      dsimp only at c0 c1 hpl HNXT
      unfold tv at c0 c1
      obtain ⟨pre, hpre⟩ : ∃ pre, preT d j = pre := ⟨_, rfl⟩
      obtain ⟨nxt, hnxt⟩ : ∃ nxt, preT d (j + 1) = nxt := ⟨_, rfl⟩
      rw [hpre, hnxt] at HNXT
      rw [hpre] at hprl ⊢
      have HNX := Lib.hid hnxt
      have hji : (j : Int) < (n : Int) := by omega
      obtain ⟨hl1, hl2, hl3, hl4⟩ := hpl
      obtain ⟨p1, hp1⟩ : ∃ p1, (if j = 0 then pre else pre ++ [44]) = p1 := ⟨_, rfl⟩
      have hp1l : p1.length ≤ 16001 := by
        rw [← hp1]
        split
        · omega
        · rw [List.length_append, List.length_singleton]; omega
      obtain ⟨p2, hp2⟩ : ∃ p2, p1 ++ s = p2 := ⟨_, rfl⟩
      have hp2l : p2.length ≤ 16100 := by rw [← hp2, List.length_append]; omega
      obtain ⟨p3, hp3⟩ : ∃ p3, p2 ++ [61] = p3 := ⟨_, rfl⟩
      have hp3l : p3.length ≤ 16200 := by rw [← hp3, List.length_append]; simp; omega
      have hca : ∀ W, (Op.stringOp .add ⟨pre.toArray⟩ ⟨#[44]⟩).run Tryd.prog W = .ok (.string ⟨(pre ++ [44]).toArray⟩) W := fun W => cat_is pre [44] (by simp; omega) W
      have hcb : ∀ W, (Op.stringOp .add ⟨p1.toArray⟩ ⟨s.toArray⟩).run Tryd.prog W = .ok (.string ⟨p2.toArray⟩) W := fun W => by rw [← hp2]; exact cat_is p1 s (by omega) W
      have hcc2 : ∀ W, (Op.stringOp .add ⟨p2.toArray⟩ ⟨#[61]⟩).run Tryd.prog W = .ok (.string ⟨p3.toArray⟩) W := fun W => by rw [← hp3]; exact cat_is p2 [61] (by simp; omega) W
      obtain ⟨N, hN⟩ : ∃ N, v.length = N := ⟨_, rfl⟩
      have HN := Lib.hid hN
      have htl := text_len6 N v 0
      have HLT : Hid (text6 N 0 v = [] ++ text6 N 0 (v.drop 0)) := rfl
      rw [hN] at hl3 hl4 htl HNXT
      have HFIN : Hid (nxt = p3 ++ text6 N 0 v) := by
        show _ = _
        rw [HNXT.out, hp1, ← hp3, ← hp2]
        simp
      obtain ⟨tx, htx⟩ : ∃ tx, text6 N 0 v = tx := ⟨_, rfl⟩
      rw [htx] at HLT htl HFIN
      clear hcc hu hp hl hpk hpre hnxt hp2 hp3 hN htx HNXT
      have HP1 : Hid ((j = 0 ∧ p1 = pre) ∨ (0 < j ∧ p1 = pre ++ [44])) := by
        by_cases hj0 : j = 0
        · exact .inl ⟨hj0, by rw [← hp1, if_pos hj0]⟩
        · exact .inr ⟨by omega, by rw [← hp1, if_neg hj0]⟩
      clear hp1
      rcases HP1.out with ⟨hj0, hpe⟩ | ⟨hj0, hpe⟩
      · have hj0i : ¬ (0 : Int) < (j : Int) := by omega
        subst hpe
        clear hj0
        go_wp2_with fail
        obtain ⟨V, hV⟩ : ∃ V : World, V = wr := ⟨_, rfl⟩
        subst hV
        go_loopw [3, 6] (fun st i wi => ∃ (k : Nat) (acc : List UInt8), st = .string ⟨(p3 ++ acc).toArray⟩ ∧ i = .int .i64 (k : Int) ∧ k ≤ N ∧ Hid (tx = acc ++ text6 N k (v.drop k)) ∧ Hid (Keeps [] w wi)) (fun _ i _ => N - (intOf i).toNat)
        case atStart => exact ⟨0, [], by rw [List.append_nil], rfl, Nat.zero_le _, HLT.out, HKR.out⟩
        case round =>
          obtain ⟨k, acc, rfl, rfl, hk, HT, HKI⟩ := hrel
          have hvN : (⟨v.toArray⟩ : ByteArray).size = N := HN.out
          have hal : acc.length ≤ 3 * N := by have h9 := congrArg List.length HT.out; rw [List.length_append] at h9; omega
          by_cases hkn : k < N
          · obtain ⟨u, hu⟩ : ∃ u, v[k]? = some u := ⟨_, List.getElem?_eq_getElem (by rw [HN.out]; exact hkn)⟩
            have hul : u.toNat < 256 := u.toNat_lt
            have hix := str_at v k u hu
            have hki : (k : Int) < (N : Int) := by omega
            have hsl : ∀ W, (Instr.slice 9 (.string ⟨v.toArray⟩) (some (.int .i64 (k : Int))) (some (.int .i64 ((k : Int) + 1))) none).run Tryd.prog W = .ok (.string ⟨#[u]⟩) W := fun W => by
              have h9 := str_cut v k (k + 1) (by omega) (by rw [HN.out]; omega) W
              rw [drop_at hu, show k + 1 - k = 1 by omega] at h9
              exact h9
            have HST : Hid (tx = acc ++ esc6 k N u ++ text6 N (k + 1) (v.drop (k + 1))) := by
              show _ = _
              rw [HT.out, text_step N v k u hu, List.append_assoc]
            have hes := ask_ref u k N hkn
            obtain ⟨es, hese⟩ : ∃ es, esc6 k N u = es := ⟨_, rfl⟩
            rw [hese] at HST
            unfold esc6 at hese
            rw [hes] at hese
            obtain ⟨st, hst⟩ : ∃ st, p3 ++ acc = st := ⟨_, rfl⟩
            obtain ⟨st1, hst1⟩ : ∃ st1, st ++ [92] = st1 := ⟨_, rfl⟩
            obtain ⟨stu, hstu⟩ : ∃ stu, st ++ [u] = stu := ⟨_, rfl⟩
            obtain ⟨st2, hst2⟩ : ∃ st2, st1 ++ [u] = st2 := ⟨_, rfl⟩
            have hstl : st.length ≤ 17000 := by rw [← hst, List.length_append]; omega
            have hst1l : st1.length ≤ 17001 := by rw [← hst1, List.length_append, List.length_singleton]; omega
            have ha1 : ∀ W, (Op.stringOp .add ⟨st.toArray⟩ ⟨#[92]⟩).run Tryd.prog W = .ok (.string ⟨st1.toArray⟩) W := fun W => by rw [← hst1]; exact cat_is st [92] (by simp; omega) W
            have ha2 : ∀ W, (Op.stringOp .add ⟨st.toArray⟩ ⟨#[u]⟩).run Tryd.prog W = .ok (.string ⟨stu.toArray⟩) W := fun W => by rw [← hstu]; exact cat_is st [u] (by simp; omega) W
            have ha3 : ∀ W, (Op.stringOp .add ⟨st1.toArray⟩ ⟨#[u]⟩).run Tryd.prog W = .ok (.string ⟨st2.toArray⟩) W := fun W => by rw [← hst2]; exact cat_is st1 [u] (by simp; omega) W
            have HSTU : Hid (stu = p3 ++ (acc ++ [u])) := by show _ = _; rw [← hstu, ← hst, List.append_assoc]
            have HST2 : Hid (st2 = p3 ++ (acc ++ [92, u])) := by show _ = _; rw [← hst2, ← hst1, ← hst]; simp
            have HSG := Lib.hid (fun X => rsign_is u X)
            have HHX := Lib.hid (fun X => rhex_is u X)
            rw [hst]
            obtain ⟨sg, hsg⟩ : ∃ sg, sign1 u.toNat = sg := ⟨_, rfl⟩
            rw [hsg] at HSG hese
            obtain ⟨pl, hpl⟩ : ∃ pl, plain1 u = pl := ⟨_, rfl⟩
            rw [hpl] at hese
            cases pl
            · obtain ⟨dg, hdg⟩ : ∃ dg, [hexd (u.toNat / 16), hexd (u.toNat % 16)] = dg := ⟨_, rfl⟩
              have hdl : dg.length = 2 := by rw [← hdg]; rfl
              have hee : es = 92 :: dg := by rw [← hese, ← hdg]; rfl
              rw [show (#[hexd (u.toNat / 16), hexd (u.toNat % 16)] : Array UInt8) = dg.toArray from by rw [← hdg]] at HHX
              obtain ⟨st3, hst3⟩ : ∃ st3, st1 ++ dg = st3 := ⟨_, rfl⟩
              have ha4 : ∀ W, (Op.stringOp .add ⟨st1.toArray⟩ ⟨dg.toArray⟩).run Tryd.prog W = .ok (.string ⟨st3.toArray⟩) W := fun W => by rw [← hst3]; exact cat_is st1 dg (by omega) W
              have HST3 : Hid (st3 = p3 ++ (acc ++ es)) := by show _ = _; rw [← hst3, ← hst1, ← hst, hee]; simp
              unfold plain1 at hpl
              clear hu hes hese hst hst1 hstu hst2 hst3 hdg hsg ha2 ha3 hee
              have hcs : (u.toNat : Int) < 32 ∨ (¬ (u.toNat : Int) < 32 ∧ (126 : Int) < (u.toNat : Int)) := by
                rcases Nat.lt_or_ge u.toNat 32 with h7 | h7
                · exact .inl (by omega)
                · refine .inr ⟨by omega, ?_⟩
                  have h8 : ¬ u.toNat ≤ 126 := fun h8 => by rw [show decide (32 ≤ u.toNat) = true by simp; omega, show decide (u.toNat ≤ 126) = true by simp; omega] at hpl; cases hpl
                  omega
              clear hpl hdl
              rcases hcs with g1 | ⟨g1, g2⟩
              · go_wp2_with fail
                refine (HHX.out _).mono ?_
                rintro e w3 ⟨rfl, hk3⟩
                have HK3 := Lib.hid (HKI.out.trans' hk3)
                clear hk3
                go_wp2_with fail
                go_roundw
                case rel => exact ⟨k + 1, acc ++ es, by rw [HST3.out], by go_num, by omega, HST.out, HK3.out⟩
                case measure => simp [intOf]; omega
              · have g2b : decide ((126 : Int) < (u.toNat : Int)) = true := by simpa using g2
                go_wp2_with fail
                refine (HHX.out _).mono ?_
                rintro e w3 ⟨rfl, hk3⟩
                have HK3 := Lib.hid (HKI.out.trans' hk3)
                clear hk3
                go_wp2_with fail
                go_roundw
                case rel => exact ⟨k + 1, acc ++ es, by rw [HST3.out], by go_num, by omega, HST.out, HK3.out⟩
                case measure => simp [intOf]; omega
            · unfold plain1 at hpl
              simp only [Bool.and_eq_true, decide_eq_true_eq] at hpl
              obtain ⟨g1', g2'⟩ := hpl
              have g1 : ¬ (u.toNat : Int) < 32 := by omega
              have g2 : ¬ (126 : Int) < (u.toNat : Int) := by omega
              have g2b : decide ((126 : Int) < (u.toNat : Int)) = false := by simp; omega
              cases sg
              · clear hu hes hst hst1 hstu hst2 hsg g1' g2'
                have hwN : wrap64 ((N : Int) - 1) = (N : Int) - 1 := by unfold wrap64; omega
                by_cases h32 : u = 32
                · subst h32
                  rw [show (((32 : UInt8).toNat : Nat) : Int) = 32 from rfl] at hix HSG
                  clear hul g1 g2 g2b
                  by_cases hk0 : k = 0
                  · have k0 : (k : Int) = 0 := by omega
                    rw [k0, show (0 : Int) + 1 = 1 from rfl] at hsl
                    rw [k0] at hix
                    have HEE : Hid (es = [92, 32]) := by show _ = _; rw [← hese]; simp [hk0]
                    clear hese
                    go_wp2_with fail
                    refine (HSG.out _).mono ?_
                    rintro e w3 ⟨rfl, rfl⟩
                    go_wp2_with fail
                    go_roundw
                    case rel => exact ⟨k + 1, acc ++ es, by rw [HST2.out, HEE.out], by first | go_num | (congr 1; omega), by omega, HST.out, HKI.out⟩
                    case measure => simp [intOf]; omega
                  · have k0 : ¬ (k : Int) = 0 := by omega
                    have k0b : ((k : Int) == 0) = false := by simpa using k0
                    by_cases hkl : k + 1 = N
                    · have kl : (k : Int) = (N : Int) - 1 := by omega
                      have klb : ((k : Int) == (N : Int) - 1) = true := by simpa using kl
                      have HEE : Hid (es = [92, 32]) := by show _ = _; rw [← hese]; simp [hk0, hkl]
                      clear hese kl hkl
                      go_wp2_with fail
                      refine (HSG.out _).mono ?_
                      rintro e w3 ⟨rfl, rfl⟩
                      go_wp2_with fail
                      go_roundw
                      case rel => exact ⟨k + 1, acc ++ es, by rw [HST2.out, HEE.out], by first | go_num | (congr 1; omega), by omega, HST.out, HKI.out⟩
                      case measure => simp [intOf]; omega
                    · have kl : ¬ (k : Int) = (N : Int) - 1 := by omega
                      have klb : ((k : Int) == (N : Int) - 1) = false := by simpa using kl
                      have HEE : Hid (es = [32]) := by show _ = _; rw [← hese]; simp [hk0, hkl]
                      clear hese
                      go_wp2_with fail
                      refine (HSG.out _).mono ?_
                      rintro e w3 ⟨rfl, rfl⟩
                      go_wp2_with fail
                      go_roundw
                      case rel => exact ⟨k + 1, acc ++ es, by rw [HSTU.out, HEE.out], by first | go_num | (congr 1; omega), by omega, HST.out, HKI.out⟩
                      case measure => simp [intOf]; omega
                · by_cases h35 : u = 35
                  · subst h35
                    rw [show (((35 : UInt8).toNat : Nat) : Int) = 35 from rfl] at hix HSG
                    clear hul g1 g2 g2b
                    by_cases hk0 : k = 0
                    · have k0 : (k : Int) = 0 := by omega
                      rw [k0, show (0 : Int) + 1 = 1 from rfl] at hsl
                      rw [k0] at hix
                      have HEE : Hid (es = [92, 35]) := by show _ = _; rw [← hese]; simp [hk0]
                      clear hese
                      go_wp2_with fail
                      refine (HSG.out _).mono ?_
                      rintro e w3 ⟨rfl, rfl⟩
                      go_wp2_with fail
                      go_roundw
                      case rel => exact ⟨k + 1, acc ++ es, by rw [HST2.out, HEE.out], by first | go_num | (congr 1; omega), by omega, HST.out, HKI.out⟩
                      case measure => simp [intOf]; omega
                    · have k0 : ¬ (k : Int) = 0 := by omega
                      have k0b : ((k : Int) == 0) = false := by simpa using k0
                      have HEE : Hid (es = [35]) := by show _ = _; rw [← hese]; simp [hk0]
                      clear hese
                      rcases Decidable.em ((k : Int) = (N : Int) - 1) with kl | kl
                      · have klb : ((k : Int) == (N : Int) - 1) = true := by simpa using kl
                        clear kl
                        go_wp2_with fail
                        refine (HSG.out _).mono ?_
                        rintro e w3 ⟨rfl, rfl⟩
                        go_wp2_with fail
                        go_roundw
                        case rel => exact ⟨k + 1, acc ++ es, by rw [HSTU.out, HEE.out], by first | go_num | (congr 1; omega), by omega, HST.out, HKI.out⟩
                        case measure => simp [intOf]; omega
                      · have klb : ((k : Int) == (N : Int) - 1) = false := by simpa using kl
                        go_wp2_with fail
                        refine (HSG.out _).mono ?_
                        rintro e w3 ⟨rfl, rfl⟩
                        go_wp2_with fail
                        go_roundw
                        case rel => exact ⟨k + 1, acc ++ es, by rw [HSTU.out, HEE.out], by first | go_num | (congr 1; omega), by omega, HST.out, HKI.out⟩
                        case measure => simp [intOf]; omega
                  · have HEE : Hid (es = [u]) := by show _ = _; rw [← hese]; simp [h32, h35]
                    have h32b : (u == 32) = false := by simpa using h32
                    have h35b : (u == 35) = false := by simpa using h35
                    clear hese
                    rcases Decidable.em ((k : Int) = 0) with k0 | k0
                    · have k0b : ((k : Int) == 0) = true := by simpa using k0
                      rw [k0, show (0 : Int) + 1 = 1 from rfl] at hsl
                      rw [k0] at hix
                      rcases Decidable.em ((k : Int) = (N : Int) - 1) with kl | kl
                      · have klb : ((k : Int) == (N : Int) - 1) = true := by simpa using kl
                        go_wp2_with fail
                        refine (HSG.out _).mono ?_
                        rintro e w3 ⟨rfl, rfl⟩
                        go_wp2_with fail
                        go_roundw
                        case rel => exact ⟨k + 1, acc ++ es, by rw [HSTU.out, HEE.out], by first | go_num | (congr 1; omega), by omega, HST.out, HKI.out⟩
                        case measure => simp [intOf]; omega
                      · have klb : ((k : Int) == (N : Int) - 1) = false := by simpa using kl
                        go_wp2_with fail
                        refine (HSG.out _).mono ?_
                        rintro e w3 ⟨rfl, rfl⟩
                        go_wp2_with fail
                        go_roundw
                        case rel => exact ⟨k + 1, acc ++ es, by rw [HSTU.out, HEE.out], by first | go_num | (congr 1; omega), by omega, HST.out, HKI.out⟩
                        case measure => simp [intOf]; omega
                    · have k0b : ((k : Int) == 0) = false := by simpa using k0
                      rcases Decidable.em ((k : Int) = (N : Int) - 1) with kl | kl
                      · have klb : ((k : Int) == (N : Int) - 1) = true := by simpa using kl
                        clear kl
                        go_wp2_with fail
                        refine (HSG.out _).mono ?_
                        rintro e w3 ⟨rfl, rfl⟩
                        go_wp2_with fail
                        go_roundw
                        case rel => exact ⟨k + 1, acc ++ es, by rw [HSTU.out, HEE.out], by first | go_num | (congr 1; omega), by omega, HST.out, HKI.out⟩
                        case measure => simp [intOf]; omega
                      · have klb : ((k : Int) == (N : Int) - 1) = false := by simpa using kl
                        go_wp2_with fail
                        refine (HSG.out _).mono ?_
                        rintro e w3 ⟨rfl, rfl⟩
                        go_wp2_with fail
                        go_roundw
                        case rel => exact ⟨k + 1, acc ++ es, by rw [HSTU.out, HEE.out], by first | go_num | (congr 1; omega), by omega, HST.out, HKI.out⟩
                        case measure => simp [intOf]; omega
              · have hee : es = [92, u] := by rw [← hese]; simp
                clear hu hes hese hst hst1 hstu hst2 hsg ha2 g1' g2'
                have HEE := Lib.hid hee
                clear hee
                go_wp2_with fail
                refine (HSG.out _).mono ?_
                rintro e w3 ⟨rfl, rfl⟩
                go_wp2_with fail
                go_roundw
                case rel => exact ⟨k + 1, acc ++ es, by rw [HST2.out, HEE.out], by go_num, by omega, HST.out, HKI.out⟩
                case measure => simp [intOf]; omega
          · obtain rfl : k = N := by omega
            have hac : acc = tx := by
              have h9 := HT.out
              rw [List.drop_of_length_le (by rw [HN.out]; exact Nat.le_refl _)] at h9
              simp [text6] at h9
              exact h9.symm
            subst hac
            go_wp2_with fail
            go_roundw
            case rel => exact ⟨j + 1, by rw [← HFIN.out, HNX.out], by go_num, by omega, HKI.out⟩
            case measure => simp [intOf]; omega
      · have hj0i : (0 : Int) < (j : Int) := by omega
        subst hpe
        clear hj0
        go_wp2_with fail
        obtain ⟨V, hV⟩ : ∃ V : World, V = wr := ⟨_, rfl⟩
        subst hV
        go_loopw [3, 6] (fun st i wi => ∃ (k : Nat) (acc : List UInt8), st = .string ⟨(p3 ++ acc).toArray⟩ ∧ i = .int .i64 (k : Int) ∧ k ≤ N ∧ Hid (tx = acc ++ text6 N k (v.drop k)) ∧ Hid (Keeps [] w wi)) (fun _ i _ => N - (intOf i).toNat)
        case atStart => exact ⟨0, [], by rw [List.append_nil], rfl, Nat.zero_le _, HLT.out, HKR.out⟩
        case round =>
          obtain ⟨k, acc, rfl, rfl, hk, HT, HKI⟩ := hrel
          have hvN : (⟨v.toArray⟩ : ByteArray).size = N := HN.out
          have hal : acc.length ≤ 3 * N := by have h9 := congrArg List.length HT.out; rw [List.length_append] at h9; omega
          by_cases hkn : k < N
          · obtain ⟨u, hu⟩ : ∃ u, v[k]? = some u := ⟨_, List.getElem?_eq_getElem (by rw [HN.out]; exact hkn)⟩
            have hul : u.toNat < 256 := u.toNat_lt
            have hix := str_at v k u hu
            have hki : (k : Int) < (N : Int) := by omega
            have hsl : ∀ W, (Instr.slice 9 (.string ⟨v.toArray⟩) (some (.int .i64 (k : Int))) (some (.int .i64 ((k : Int) + 1))) none).run Tryd.prog W = .ok (.string ⟨#[u]⟩) W := fun W => by
              have h9 := str_cut v k (k + 1) (by omega) (by rw [HN.out]; omega) W
              rw [drop_at hu, show k + 1 - k = 1 by omega] at h9
              exact h9
            have HST : Hid (tx = acc ++ esc6 k N u ++ text6 N (k + 1) (v.drop (k + 1))) := by
              show _ = _
              rw [HT.out, text_step N v k u hu, List.append_assoc]
            have hes := ask_ref u k N hkn
            obtain ⟨es, hese⟩ : ∃ es, esc6 k N u = es := ⟨_, rfl⟩
            rw [hese] at HST
            unfold esc6 at hese
            rw [hes] at hese
            obtain ⟨st, hst⟩ : ∃ st, p3 ++ acc = st := ⟨_, rfl⟩
            obtain ⟨st1, hst1⟩ : ∃ st1, st ++ [92] = st1 := ⟨_, rfl⟩
            obtain ⟨stu, hstu⟩ : ∃ stu, st ++ [u] = stu := ⟨_, rfl⟩
            obtain ⟨st2, hst2⟩ : ∃ st2, st1 ++ [u] = st2 := ⟨_, rfl⟩
            have hstl : st.length ≤ 17000 := by rw [← hst, List.length_append]; omega
            have hst1l : st1.length ≤ 17001 := by rw [← hst1, List.length_append, List.length_singleton]; omega
            have ha1 : ∀ W, (Op.stringOp .add ⟨st.toArray⟩ ⟨#[92]⟩).run Tryd.prog W = .ok (.string ⟨st1.toArray⟩) W := fun W => by rw [← hst1]; exact cat_is st [92] (by simp; omega) W
            have ha2 : ∀ W, (Op.stringOp .add ⟨st.toArray⟩ ⟨#[u]⟩).run Tryd.prog W = .ok (.string ⟨stu.toArray⟩) W := fun W => by rw [← hstu]; exact cat_is st [u] (by simp; omega) W
            have ha3 : ∀ W, (Op.stringOp .add ⟨st1.toArray⟩ ⟨#[u]⟩).run Tryd.prog W = .ok (.string ⟨st2.toArray⟩) W := fun W => by rw [← hst2]; exact cat_is st1 [u] (by simp; omega) W
            have HSTU : Hid (stu = p3 ++ (acc ++ [u])) := by show _ = _; rw [← hstu, ← hst, List.append_assoc]
            have HST2 : Hid (st2 = p3 ++ (acc ++ [92, u])) := by show _ = _; rw [← hst2, ← hst1, ← hst]; simp
            have HSG := Lib.hid (fun X => rsign_is u X)
            have HHX := Lib.hid (fun X => rhex_is u X)
            rw [hst]
            obtain ⟨sg, hsg⟩ : ∃ sg, sign1 u.toNat = sg := ⟨_, rfl⟩
            rw [hsg] at HSG hese
            obtain ⟨pl, hpl⟩ : ∃ pl, plain1 u = pl := ⟨_, rfl⟩
            rw [hpl] at hese
            cases pl
            · obtain ⟨dg, hdg⟩ : ∃ dg, [hexd (u.toNat / 16), hexd (u.toNat % 16)] = dg := ⟨_, rfl⟩
              have hdl : dg.length = 2 := by rw [← hdg]; rfl
              have hee : es = 92 :: dg := by rw [← hese, ← hdg]; rfl
              rw [show (#[hexd (u.toNat / 16), hexd (u.toNat % 16)] : Array UInt8) = dg.toArray from by rw [← hdg]] at HHX
              obtain ⟨st3, hst3⟩ : ∃ st3, st1 ++ dg = st3 := ⟨_, rfl⟩
              have ha4 : ∀ W, (Op.stringOp .add ⟨st1.toArray⟩ ⟨dg.toArray⟩).run Tryd.prog W = .ok (.string ⟨st3.toArray⟩) W := fun W => by rw [← hst3]; exact cat_is st1 dg (by omega) W
              have HST3 : Hid (st3 = p3 ++ (acc ++ es)) := by show _ = _; rw [← hst3, ← hst1, ← hst, hee]; simp
              unfold plain1 at hpl
              clear hu hes hese hst hst1 hstu hst2 hst3 hdg hsg ha2 ha3 hee
              have hcs : (u.toNat : Int) < 32 ∨ (¬ (u.toNat : Int) < 32 ∧ (126 : Int) < (u.toNat : Int)) := by
                rcases Nat.lt_or_ge u.toNat 32 with h7 | h7
                · exact .inl (by omega)
                · refine .inr ⟨by omega, ?_⟩
                  have h8 : ¬ u.toNat ≤ 126 := fun h8 => by rw [show decide (32 ≤ u.toNat) = true by simp; omega, show decide (u.toNat ≤ 126) = true by simp; omega] at hpl; cases hpl
                  omega
              clear hpl hdl
              rcases hcs with g1 | ⟨g1, g2⟩
              · go_wp2_with fail
                refine (HHX.out _).mono ?_
                rintro e w3 ⟨rfl, hk3⟩
                have HK3 := Lib.hid (HKI.out.trans' hk3)
                clear hk3
                go_wp2_with fail
                go_roundw
                case rel => exact ⟨k + 1, acc ++ es, by rw [HST3.out], by go_num, by omega, HST.out, HK3.out⟩
                case measure => simp [intOf]; omega
              · have g2b : decide ((126 : Int) < (u.toNat : Int)) = true := by simpa using g2
                go_wp2_with fail
                refine (HHX.out _).mono ?_
                rintro e w3 ⟨rfl, hk3⟩
                have HK3 := Lib.hid (HKI.out.trans' hk3)
                clear hk3
                go_wp2_with fail
                go_roundw
                case rel => exact ⟨k + 1, acc ++ es, by rw [HST3.out], by go_num, by omega, HST.out, HK3.out⟩
                case measure => simp [intOf]; omega
            · unfold plain1 at hpl
              simp only [Bool.and_eq_true, decide_eq_true_eq] at hpl
              obtain ⟨g1', g2'⟩ := hpl
              have g1 : ¬ (u.toNat : Int) < 32 := by omega
              have g2 : ¬ (126 : Int) < (u.toNat : Int) := by omega
              have g2b : decide ((126 : Int) < (u.toNat : Int)) = false := by simp; omega
              cases sg
              · clear hu hes hst hst1 hstu hst2 hsg g1' g2'
                have hwN : wrap64 ((N : Int) - 1) = (N : Int) - 1 := by unfold wrap64; omega
                by_cases h32 : u = 32
                · subst h32
                  rw [show (((32 : UInt8).toNat : Nat) : Int) = 32 from rfl] at hix HSG
                  clear hul g1 g2 g2b
                  by_cases hk0 : k = 0
                  · have k0 : (k : Int) = 0 := by omega
                    rw [k0, show (0 : Int) + 1 = 1 from rfl] at hsl
                    rw [k0] at hix
                    have HEE : Hid (es = [92, 32]) := by show _ = _; rw [← hese]; simp [hk0]
                    clear hese
                    go_wp2_with fail
                    refine (HSG.out _).mono ?_
                    rintro e w3 ⟨rfl, rfl⟩
                    go_wp2_with fail
                    go_roundw
                    case rel => exact ⟨k + 1, acc ++ es, by rw [HST2.out, HEE.out], by first | go_num | (congr 1; omega), by omega, HST.out, HKI.out⟩
                    case measure => simp [intOf]; omega
                  · have k0 : ¬ (k : Int) = 0 := by omega
                    have k0b : ((k : Int) == 0) = false := by simpa using k0
                    by_cases hkl : k + 1 = N
                    · have kl : (k : Int) = (N : Int) - 1 := by omega
                      have klb : ((k : Int) == (N : Int) - 1) = true := by simpa using kl
                      have HEE : Hid (es = [92, 32]) := by show _ = _; rw [← hese]; simp [hk0, hkl]
                      clear hese kl hkl
                      go_wp2_with fail
                      refine (HSG.out _).mono ?_
                      rintro e w3 ⟨rfl, rfl⟩
                      go_wp2_with fail
                      go_roundw
                      case rel => exact ⟨k + 1, acc ++ es, by rw [HST2.out, HEE.out], by first | go_num | (congr 1; omega), by omega, HST.out, HKI.out⟩
                      case measure => simp [intOf]; omega
                    · have kl : ¬ (k : Int) = (N : Int) - 1 := by omega
                      have klb : ((k : Int) == (N : Int) - 1) = false := by simpa using kl
                      have HEE : Hid (es = [32]) := by show _ = _; rw [← hese]; simp [hk0, hkl]
                      clear hese
                      go_wp2_with fail
                      refine (HSG.out _).mono ?_
                      rintro e w3 ⟨rfl, rfl⟩
                      go_wp2_with fail
                      go_roundw
                      case rel => exact ⟨k + 1, acc ++ es, by rw [HSTU.out, HEE.out], by first | go_num | (congr 1; omega), by omega, HST.out, HKI.out⟩
                      case measure => simp [intOf]; omega
                · by_cases h35 : u = 35
                  · subst h35
                    rw [show (((35 : UInt8).toNat : Nat) : Int) = 35 from rfl] at hix HSG
                    clear hul g1 g2 g2b
                    by_cases hk0 : k = 0
                    · have k0 : (k : Int) = 0 := by omega
                      rw [k0, show (0 : Int) + 1 = 1 from rfl] at hsl
                      rw [k0] at hix
                      have HEE : Hid (es = [92, 35]) := by show _ = _; rw [← hese]; simp [hk0]
                      clear hese
                      go_wp2_with fail
                      refine (HSG.out _).mono ?_
                      rintro e w3 ⟨rfl, rfl⟩
                      go_wp2_with fail
                      go_roundw
                      case rel => exact ⟨k + 1, acc ++ es, by rw [HST2.out, HEE.out], by first | go_num | (congr 1; omega), by omega, HST.out, HKI.out⟩
                      case measure => simp [intOf]; omega
                    · have k0 : ¬ (k : Int) = 0 := by omega
                      have k0b : ((k : Int) == 0) = false := by simpa using k0
                      have HEE : Hid (es = [35]) := by show _ = _; rw [← hese]; simp [hk0]
                      clear hese
                      rcases Decidable.em ((k : Int) = (N : Int) - 1) with kl | kl
                      · have klb : ((k : Int) == (N : Int) - 1) = true := by simpa using kl
                        clear kl
                        go_wp2_with fail
                        refine (HSG.out _).mono ?_
                        rintro e w3 ⟨rfl, rfl⟩
                        go_wp2_with fail
                        go_roundw
                        case rel => exact ⟨k + 1, acc ++ es, by rw [HSTU.out, HEE.out], by first | go_num | (congr 1; omega), by omega, HST.out, HKI.out⟩
                        case measure => simp [intOf]; omega
                      · have klb : ((k : Int) == (N : Int) - 1) = false := by simpa using kl
                        go_wp2_with fail
                        refine (HSG.out _).mono ?_
                        rintro e w3 ⟨rfl, rfl⟩
                        go_wp2_with fail
                        go_roundw
                        case rel => exact ⟨k + 1, acc ++ es, by rw [HSTU.out, HEE.out], by first | go_num | (congr 1; omega), by omega, HST.out, HKI.out⟩
                        case measure => simp [intOf]; omega
                  · have HEE : Hid (es = [u]) := by show _ = _; rw [← hese]; simp [h32, h35]
                    have h32b : (u == 32) = false := by simpa using h32
                    have h35b : (u == 35) = false := by simpa using h35
                    clear hese
                    rcases Decidable.em ((k : Int) = 0) with k0 | k0
                    · have k0b : ((k : Int) == 0) = true := by simpa using k0
                      rw [k0, show (0 : Int) + 1 = 1 from rfl] at hsl
                      rw [k0] at hix
                      rcases Decidable.em ((k : Int) = (N : Int) - 1) with kl | kl
                      · have klb : ((k : Int) == (N : Int) - 1) = true := by simpa using kl
                        go_wp2_with fail
                        refine (HSG.out _).mono ?_
                        rintro e w3 ⟨rfl, rfl⟩
                        go_wp2_with fail
                        go_roundw
                        case rel => exact ⟨k + 1, acc ++ es, by rw [HSTU.out, HEE.out], by first | go_num | (congr 1; omega), by omega, HST.out, HKI.out⟩
                        case measure => simp [intOf]; omega
                      · have klb : ((k : Int) == (N : Int) - 1) = false := by simpa using kl
                        go_wp2_with fail
                        refine (HSG.out _).mono ?_
                        rintro e w3 ⟨rfl, rfl⟩
                        go_wp2_with fail
                        go_roundw
                        case rel => exact ⟨k + 1, acc ++ es, by rw [HSTU.out, HEE.out], by first | go_num | (congr 1; omega), by omega, HST.out, HKI.out⟩
                        case measure => simp [intOf]; omega
                    · have k0b : ((k : Int) == 0) = false := by simpa using k0
                      rcases Decidable.em ((k : Int) = (N : Int) - 1) with kl | kl
                      · have klb : ((k : Int) == (N : Int) - 1) = true := by simpa using kl
                        clear kl
                        go_wp2_with fail
                        refine (HSG.out _).mono ?_
                        rintro e w3 ⟨rfl, rfl⟩
                        go_wp2_with fail
                        go_roundw
                        case rel => exact ⟨k + 1, acc ++ es, by rw [HSTU.out, HEE.out], by first | go_num | (congr 1; omega), by omega, HST.out, HKI.out⟩
                        case measure => simp [intOf]; omega
                      · have klb : ((k : Int) == (N : Int) - 1) = false := by simpa using kl
                        go_wp2_with fail
                        refine (HSG.out _).mono ?_
                        rintro e w3 ⟨rfl, rfl⟩
                        go_wp2_with fail
                        go_roundw
                        case rel => exact ⟨k + 1, acc ++ es, by rw [HSTU.out, HEE.out], by first | go_num | (congr 1; omega), by omega, HST.out, HKI.out⟩
                        case measure => simp [intOf]; omega
              · have hee : es = [92, u] := by rw [← hese]; simp
                clear hu hes hese hst hst1 hstu hst2 hsg ha2 g1' g2'
                have HEE := Lib.hid hee
                clear hee
                go_wp2_with fail
                refine (HSG.out _).mono ?_
                rintro e w3 ⟨rfl, rfl⟩
                go_wp2_with fail
                go_roundw
                case rel => exact ⟨k + 1, acc ++ es, by rw [HST2.out, HEE.out], by go_num, by omega, HST.out, HKI.out⟩
                case measure => simp [intOf]; omega
          · obtain rfl : k = N := by omega
            have hac : acc = tx := by
              have h9 := HT.out
              rw [List.drop_of_length_le (by rw [HN.out]; exact Nat.le_refl _)] at h9
              simp [text6] at h9
              exact h9.symm
            subst hac
            go_wp2_with fail
            go_roundw
            case rel => exact ⟨j + 1, by rw [← HFIN.out, HNX.out], by go_num, by omega, HKI.out⟩
            case measure => simp [intOf]; omega
    · obtain rfl : j = n := by omega
      have HE : Hid (preT d j = dnT d) := by
        show _ = _
        unfold preT dnT
        rw [List.take_of_length_le (by have := HD.out.1; omega)]
      rw [HE.out]
      go_wp2_with fail
      go_ret
      exact ⟨rfl, HKR.out⟩

end Go.Proofs.YtjnibkgbcgpigaaDoor
