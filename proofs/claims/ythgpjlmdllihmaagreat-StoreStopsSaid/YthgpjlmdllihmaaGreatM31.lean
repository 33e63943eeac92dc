/- Texts of one proof, laid together: U40. -/
import Derived.Test.YthgpjlmdllihmaaGreatM15
import Derived.StillTailTactics
import Derived.Laws.StructEq
import Derived.ChangeKeysEq
/- The document's Same of tables. -/
namespace Go.Proofs.YthgpjlmdllihmaaGreat
open Go.RowKit Go.Maps
set_option linter.unusedVariables false
set_option linter.unusedSimpArgs false
set_option maxRecDepth 100000

/-- A table as pairs in memory. -/
structure PrsAt (w : World) (A : Option Addr) (len : Nat) (T : Tab) : Prop where
  len : T.length = len
  at_ : ∀ i p, T[i]? = some p → ∃ b o, A = some ⟨b, o, none⟩ ∧ w.cell? ⟨b, o + i * 2, none⟩ = some (sv p.1) ∧ w.cell? ⟨b, o + i * 2 + 1, none⟩ = some (sv p.2)
theorem PrsAt.keep {w w' : World} {A : Option Addr} {len : Nat} {T : Tab} {bs : List Nat} (h : PrsAt w A len T) (hk : Keeps bs w w') (hb : ∀ a, A = some a → a.block ∉ bs) : PrsAt w' A len T := by
  refine ⟨h.len, fun i x hx => ?_⟩
  obtain ⟨b, o, h1, h2, h3⟩ := h.at_ i x hx
  have hb' := hb _ h1
  exact ⟨b, o, h1, (hk.cell (lt_of_cell h2) hb').trans h2, (hk.cell (lt_of_cell h3) hb').trans h3⟩
theorem PrsAt.grow {w w' : World} {A : Option Addr} {len : Nat} {T : Tab} (h : PrsAt w A len T) (hk : Keeps [] w w') : PrsAt w' A len T := h.keep hk (by simp)

theorem sv_eq (a b : List UInt8) : ((⟨a.toArray⟩ : ByteArray).toList == (⟨b.toArray⟩ : ByteArray).toList) = decide (a = b) := by
  rw [ByteArray.toList_eq, ByteArray.toList_eq]
  by_cases h : a = b
  · subst h; simp
  · rw [decide_eq_false h]
    simpa using h

theorem run_neq_pair (w : World) (p q : List UInt8 × List UInt8) : (binOp .neq 75 (.agg #[sv p.1, sv p.2]) (.agg #[sv q.1, sv q.2])).run Tryz.prog w = .ok (.bool (!decide (p = q))) w := by
  have hf : Tryz.prog.underlying 75 = some (.struct (Tryz.prog.fieldsOf 75)) := by rfl
  have hp : Tryz.prog.stoodInHeld 75 = false := by kernel_rfl
  rw [run_neq_struct, run_equalIn_struct w 9999 75 _ _ hf hp]
  have hfs : (Tryz.prog.fieldsOf 75).toList = [{ name := "Key", type := 9, offset := 0, byteOffset := 0, embedded := false, tag := "", pkgPath := "" }, { name := "Value", type := 9, offset := 1, byteOffset := 16, embedded := false, tag := "", pkgPath := "" }] := by kernel_rfl
  rw [hfs]
  have hs : ∀ a b : List UInt8, (Op.equalIn 9999 9 (sv a) (sv b)).run Tryz.prog w = .ok (decide (a = b)) w := fun a b => by
    rw [run_equalIn_string w 9998 9 _ _ Tryz.underlying9, sv_eq]
  have hpt : ∀ (x y : Value), (part 9 #[x, y] 0).run Tryz.prog w = .ok x w ∧ (part 9 #[x, y] 1).run Tryz.prog w = .ok y w := fun x y => ⟨run_part_plain w (by kernel_rfl) (by rfl), run_part_plain w (by kernel_rfl) (by rfl)⟩
  obtain ⟨a, b⟩ := p
  obtain ⟨c, d⟩ := q
  simp only [Op.eqFields, Sem.run_bind, Sem.run_ite, (hpt _ _).1, (hpt _ _).2, hs, Result.andThen_ok, Sem.run_pure]
  by_cases h1 : a = c
  · by_cases h2 : b = d
    · simp [h1, h2]
    · simp [h1, h2]
  · simp [h1]

theorem rsame_is (A B : Option Addr) (n m c d : Nat) (T U : Tab) (w : World) (hA : PrsAt w A n T) (hB : PrsAt w B m U) (hn : n ≤ 9223372036854775807) (hm : m ≤ 9223372036854775807) :
    Calls Tryz.prog 15 #[.slice A n c, .slice B m d] w fun e w' => e = .returned (.bool (decide (T = U))) ∧ Keeps [] w w' := by
  have hlA := hA.len
  have hlB := hB.len
  by_cases hnm : n = m
  · subst hnm
    have HA := Lib.hid hA
    have HB := Lib.hid hB
    have NP := Lib.hid (fun (W : World) (p q : List UInt8 × List UInt8) => run_neq_pair W p q)
    clear hA hB
    go_enter Tryz.func15, Tryz.ntmps15
    go_wp2
    go_loopw [5] (fun i wr => ∃ j : Nat, i = .int .i64 (j : Int) ∧ j ≤ n ∧ Hid (T.take j = U.take j) ∧ Hid (Keeps [] w wr)) (fun i _ => n - (intOf i).toNat)
    case atStart => exact ⟨0, rfl, Nat.zero_le _, by simp [Hid], Keeps.refl _ _⟩
    case round =>
      obtain ⟨j, rfl, hj, HT, HK⟩ := hrel
      by_cases hlt : j < n
      · have hx : T[j]? = some (T[j]'(by omega)) := List.getElem?_eq_getElem (by omega)
        have hy : U[j]? = some (U[j]'(by omega)) := List.getElem?_eq_getElem (by omega)
        have tT : T.take (j + 1) = T.take j ++ [T[j]'(by omega)] := List.take_succ_eq_append_getElem (by omega)
        have tU : U.take (j + 1) = U.take j ++ [U[j]'(by omega)] := List.take_succ_eq_append_getElem (by omega)
        obtain ⟨b1, o1, rfl, a1, a2⟩ := (HA.out.grow HK.out).at_ j _ hx
        obtain ⟨b2, o2, rfl, a3, a4⟩ := (HB.out.grow HK.out).at_ j _ hy
        generalize T[j]'(by omega) = x at *
        generalize U[j]'(by omega) = y at *
        obtain ⟨x1, x2⟩ := x
        obtain ⟨y1, y2⟩ := y
        have HTT : Hid (T.take (j + 1) = T.take j ++ [(x1, x2)]) := tT
        have HTU : Hid (U.take (j + 1) = U.take j ++ [(y1, y2)]) := tU
        have HX := Lib.hid hx
        have HY := Lib.hid hy
        have np := NP.out wr.drew (x1, x2) (y1, y2)
        clear hx hy tT tU
        by_cases hxy : (x1, x2) = (y1, y2)
        · clear np
          have HT2 : Hid (T.take (j + 1) = U.take (j + 1)) := by show _ = _; rw [HTT.out, HTU.out, HT.out, hxy]
          obtain ⟨rfl, rfl⟩ := Prod.mk.inj hxy
          clear HX HY hxy
          go_wp2_with fail
          go_still_tail 8, (by kernel_rfl)
          change wpList _ _ _ _ _ wr.drew
          go_wp2_with fail
          go_roundw
          case rel => exact ⟨j + 1, by go_num, by omega, HT2, HK.out.drew⟩
          case measure => simp [intOf]; omega
        · clear np
          have hne : Hid (¬ T = U) := fun h => hxy (by rw [h] at HX; exact Option.some.inj (HX.out.symm.trans HY.out))
          by_cases h1 : x1 = y1
          · have h2 : ¬ x2 = y2 := fun h2 => hxy (by rw [h1, h2])
            clear HX HY hxy
            go_wp2_with fail
            go_still_tail 8, (by kernel_rfl)
            change wpList _ _ _ _ _ wr.drew
            go_wp2_with fail
            go_ret
            exact ⟨by rw [decide_eq_false hne.out]; rfl, HK.out.drew⟩
          · clear HX HY hxy
            go_wp2_with fail
            go_still_tail 8, (by kernel_rfl)
            change wpList _ _ _ _ _ wr.drew
            go_wp2_with fail
            go_ret
            exact ⟨by rw [decide_eq_false hne.out]; rfl, HK.out.drew⟩
      · obtain rfl : j = n := by omega
        have h1 : T.take j = T := List.take_of_length_le (by omega)
        have h2 : U.take j = U := List.take_of_length_le (by omega)
        rw [h1, h2] at HT
        have hT := HT.out
        go_wp2
        go_ret
        exact ⟨by rw [decide_eq_true hT]; rfl, HK.out⟩
  · have hne : ¬ T = U := fun h => hnm (by rw [← hlA, ← hlB, h])
    have hz : ((n : Int) != (m : Int)) = true := by simp; omega
    go_enter Tryz.func15, Tryz.ntmps15
    go_wp2
    go_ret
    exact ⟨by rw [decide_eq_false hne]; rfl, Keeps.refl _ _⟩

end Go.Proofs.YthgpjlmdllihmaaGreat
