/- The document's All. -/
import Derived.Test.YtkcoiplhopdnlaaF14
import Derived.Test.YtkcoiplhopdnlaaF10
import Derived.Test.YtkcoiplhopdnlaaF8
namespace Go.Proofs.Ytkcoiplhopdnlaa
open Go.RowKit
set_option linter.unusedVariables false

theorem bytes_info : (Try.prog.info? 27).map (fun i => (i.zero, i.size, i.bytes)) = some (some (.slice none 0 0), 1, 24) := by kernel_rfl
theorem int_info : (Try.prog.info? 3).map (fun i => (i.zero, i.size, i.bytes)) = some (some (.int .i64 0), 1, 8) := by kernel_rfl

theorem plc_end3 (xs : List UInt8) : plc xs (recs xs).length = offs (recs xs) := by unfold plc; rw [List.take_length]

/-- The places. -/
def plcs (xs : List UInt8) (k : Nat) : List Value := (List.range k).map fun i => .int .i64 (plc xs i : Nat)
theorem plcs_succ (xs : List UInt8) (k : Nat) : plcs xs (k + 1) = plcs xs k ++ [.int .i64 (plc xs k : Nat)] := by simp [plcs, List.range_succ]

/-- The first k records and their places, as All has them. -/
structure RA (w wr : World) (xs : List UInt8) (k : Nat) (lv pv : Value) : Prop where
  l : ∃ vals : List Value, wr.ownsRow w.heap.size 27 1 lv k vals ∧ ∀ (i : Nat) (v : Value), vals[i]? = some v → ∃ r, (recs xs)[i]? = some r ∧ ∃ B d, v = .slice B r.length d ∧ BytesAt w v r
  p : wr.ownsRow w.heap.size 3 1 pv k (plcs xs k)
  apart : ∀ b, lv.ownBlock = some b → pv.ownBlock ≠ some b
  keep : Keeps [] w wr

theorem RA.start (w : World) (xs : List UInt8) : RA w w xs 0 (.slice none 0 0) (.slice none 0 0) :=
  ⟨⟨[], World.ownsRow_nil _ _ _ _, (fun i v h => by cases h)⟩, by simpa [plcs] using World.ownsRow_nil w w.heap.size 3 1, (fun b h => by cases h), Keeps.refl _ _⟩

theorem src_one (w : World) (v : Value) (t : TypeId) : Src (w.alloc (.cells #[v] t)) (some ⟨w.heap.size, 0, none⟩) 1 [v] := by
  refine ⟨(fun h => by cases h), fun ad hA j u hu => ?_⟩
  cases hA
  rw [add_at, Nat.zero_add, World.cell?_alloc_new]
  simpa using hu

/-- A row in a block that has not turned. -/
theorem own_other {a b : World} {base k n : Nat} {e : TypeId} {v : Value} {xs : List Value} {row : Option Nat} (h : a.ownsRow base e k v n xs) (hg : a.grownBy b row) (ha : ∀ x, v.ownBlock = some x → row ≠ some x) : b.ownsRow base e k v n xs :=
  own_keep h (Keeps.of_grown (bs := row.toList) hg (fun x hx => .inl (by simp [hx]))) (fun x hx hm => ha x hx (by simpa using hm))

set_option maxHeartbeats 1000000 in
theorem rall (A : Option Addr) (n c : Nat) (xs : List UInt8) (w : World) (hn : xs.length = n) (hb : BytesAt w (.slice A n c) xs) (hbig : (recs xs).length ≤ 1000000) : Calls Try.prog 21 #[.slice A n c] w fun e w' => ∃ lv pv, e = .returned (.tuple #[lv, pv, .int .i64 (offs (recs xs) : Nat)]) ∧ RA w w' xs (recs xs).length lv pv := by
  obtain ⟨hnc, hcm, hxx⟩ := cap_of_bytes hb
  clear hxx
  obtain ⟨ib, hib, hb0, hb1, hb2⟩ := info_parts bytes_info
  obtain ⟨ii, hii, hi0, hi1, hi2⟩ := info_parts int_info
  have hA : 0 < n → ∃ b o, A = some ⟨b, o, none⟩ := fun h => by
    obtain ⟨b, o, h1, _⟩ := bytes_addr hb h
    exact ⟨b, o, h1⟩
  have HB := Lib.hid hb
  have HN := Lib.hid hn
  have HA := Lib.hid hA
  clear hb hn hA
  go_enter Try.func21, Try.ntmps21
  go_wp2
  go_loopw [5, 6, 7, 8, 9, 10] (fun lv pv av _ _ _ wr => ∃ k : Nat, k ≤ (recs xs).length ∧ av = .int .i64 (plc xs k : Nat) ∧ Hid (RA w wr xs k lv pv)) (fun _ _ av _ _ _ _ => n - (intOf av).toNat)
  case atStart => exact ⟨0, Nat.zero_le _, rfl, RA.start w xs⟩
  case round =>
    obtain ⟨k, hk, rfl, HR⟩ := hrel
    have hp := plc_le xs k
    rw [HN.out] at hp
    obtain ⟨B', d', hsl, hsb⟩ := slice_from A n c (plc xs k) xs HN.out hnc hcm hp HA.out
    have hbs := hsb wr (HB.out.grow HR.out.keep)
    have hbw := hsb w HB.out
    have hdl : (xs.drop (plc xs k)).length = n - plc xs k := by rw [List.length_drop, HN.out]
    obtain ⟨lvals, hlo, hlr⟩ := HR.out.l
    obtain ⟨LA, lc, rfl⟩ := own_slice hlo
    obtain ⟨PA, pc, rfl⟩ := own_slice HR.out.p
    have HL := Lib.hid hlo
    have HLR := Lib.hid hlr
    clear hlo hlr
    by_cases hlt : k < (recs xs).length
    · obtain ⟨hf, hnx⟩ := plc_next hlt
      have hre : recOf (xs.drop (plc xs k)) = (recs xs)[k] := (recs_some hlt).2.1
      have hp1 := plc_le xs (k + 1)
      rw [HN.out] at hp1
      have HF := Lib.hid (rfirst_some B' (n - plc xs k) d' (xs.drop (plc xs k)) wr hdl hbs hf)
      have hrl := recOf_len hf
      have HHB := Lib.hid (hsb w HB.out)
      have HRE := Lib.hid hre
      have HNX := Lib.hid hnx
      have HRL := Lib.hid hrl
      have h4l := num4_lt (xs.drop (plc xs k))
      have hno := HL.out.1
      rw [hnx] at hp1
      have HPS := Lib.hid (plcs_succ xs k)
      have hkz := HR.out.keep.size
      clear hbs hbw hf hsb hre hnx hrl hdl
      generalize num4 (xs.drop (plc xs k)) = hd at *
      go_wp2_with fail
      refine HF.out.mono ?_
      rintro e w1 ⟨B, d, rfl, hbr, hk1⟩
      have HK1 := Lib.hid (HR.out.keep.trans' hk1)
      have HBR := Lib.hid hbr
      have L1 := Lib.hid (own_keep HL.out hk1 (by simp))
      have P1 := Lib.hid (own_keep HR.out.p hk1 (by simp))
      have hz1 := HK1.out.size
      clear hk1 hbr
      go_wp2_with (first
        | (at_builtin; refine wpList_append_opt rfl (.tmp 24) (.tmp 26) 22 rfl w.heap.size 27 ib _ 1 24 Try.underlying22 hib hb0 hb1 hb2 rfl (by decide) (.slice LA k lc) k lvals rfl (L1.out.alloc _) (some ⟨w1.heap.size, 0, none⟩) 1 1 [.slice B (hd - 1) d] rfl rfl (src_one _ _ _) (by simp [Value.oneCell']) (by unfold maxLen; omega) (by omega) (by simp; omega) ?_; intro v2 w2 ho2 hg2 hs2; obtain ⟨A2, c2, hv2⟩ := own_slice ho2; subst hv2; have HO2 := Lib.hid ho2; have HG2 := Lib.hid hg2; have HS2 := Lib.hid hs2; have P2 := Lib.hid (own_other (P1.out.alloc _) hg2 (fun x hx hc => HR.out.apart x hc hx)); have hz2 := hg2.size; have K2 := Lib.hid (keeps_own (L1.out.alloc _) (HK1.out.alloc _) hg2); have hz3 := K2.out.size; clear ho2 hg2 hs2)
        | (at_builtin; refine wpList_append_opt rfl (.tmp 28) (.tmp 30) 48 rfl w.heap.size 3 ii _ 1 8 Try.underlying48 hii hi0 hi1 hi2 rfl (by decide) (.slice PA k pc) k (plcs xs k) rfl (P2.out.alloc _) (some ⟨w2.heap.size, 0, none⟩) 1 1 [.int .i64 (plc xs k : Nat)] rfl rfl (src_one _ _ _) (by simp [Value.oneCell']) (by unfold maxLen; omega) (by omega) (by simp; omega) ?_; intro v3 w3 ho3 hg3 hs3; obtain ⟨A3, c3, hv3⟩ := own_slice ho3; subst hv3; have HO3 := Lib.hid ho3; have HG3 := Lib.hid hg3; have HS3 := Lib.hid hs3; have K3 := Lib.hid (keeps_own (P2.out.alloc _) (K2.out.alloc _) hg3); clear ho3 hg3 hs3))
      have hap : ∀ x, (Value.slice A2 (k + 1) c2).ownBlock = some x → (Value.slice PA k pc).ownBlock ≠ some x := fun x hx hc => by
        have hpl := (P1.out.lt x hc).2
        rcases HS2.out with h | h
        · rw [hx] at h
          exact HR.out.apart x h.symm hc
        · rw [hx] at h
          injection h with h
          simp at h
          omega
      have HRA : Hid (RA w w3 xs (k + 1) (.slice A2 (k + 1) c2) (.slice A3 (k + 1) c3)) := by
        refine ⟨⟨lvals ++ [.slice B (hd - 1) d], own_other (HO2.out.alloc _) HG3.out (fun x hx hc => hap x hx hc), fun i v hv => ?_⟩, ?_, fun x hx hc => ?_, K3.out⟩
        · have hll : lvals.length = k := by omega
          rcases Nat.lt_or_ge i k with hik | hik
          · rw [List.getElem?_append_left (by omega)] at hv
            exact HLR.out i v hv
          · rw [List.getElem?_append_right (by omega)] at hv
            have hik2 : i = k := by
              have := (List.getElem?_eq_some_iff.1 hv).1
              simp at this
              omega
            subst hik2
            rw [hll, Nat.sub_self, List.getElem?_cons_zero] at hv
            injection hv with hv
            refine ⟨(recs xs)[i], List.getElem?_eq_getElem hlt, B, d, ?_, ?_⟩
            · rw [← hv, ← HRE.out, HRL.out.1]
            · rw [← hv, ← HRE.out]
              exact HBR.out w HHB.out
        · rw [HPS.out]
          exact HO3.out
        · have hl2 := (HO2.out.lt x hx).2
          rcases HS3.out with h | h
          · rw [hc] at h
            exact hap x hx h.symm
          · rw [hc] at h
            injection h with h
            simp at h
            omega
      go_roundw
      case rel => exact ⟨k + 1, by omega, by rw [HNX.out]; go_num, HRA⟩
      case measure => simp [intOf]; omega
    · obtain rfl : k = (recs xs).length := by omega
      have hfn : framed (xs.drop (plc xs (recs xs).length)) = false := by
        rw [plc_end3]
        exact recs_none xs
      have HF := Lib.hid (rfirst_none B' _ d' _ wr hdl hbs hfn)
      have HP : Hid (plc xs (recs xs).length = offs (recs xs)) := plc_end3 xs
      clear hbs hbw hdl hfn hsb
      go_wp2_with fail
      refine HF.out.mono ?_
      rintro e w1 ⟨rfl, hk1⟩
      have HK1 := Lib.hid hk1
      clear hk1
      go_wp2_with fail
      refine bodyPost_ret (results_tmp3 rfl _ _ _) rfl ?_
      rw [HP.out]
      refine ⟨_, _, rfl, ⟨lvals, ?_, HLR.out⟩, own_keep HR.out.p HK1.out (by simp), HR.out.apart, HR.out.keep.trans' HK1.out⟩
      exact own_keep HL.out HK1.out (by simp)

end Go.Proofs.Ytkcoiplhopdnlaa
