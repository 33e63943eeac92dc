/- Write under one roof: which number it answers; what a crash leaves where nothing was written. -/
import Derived.Test.YtadpomclnhemoaaD13
namespace Go.Proofs.Ytadpomclnhemoaa
open Go.RowKit
set_option linter.unusedVariables false

/-- What Write answers. -/
def wErr (d : Dat) (a : Int) (n : Nat) : Int :=
  if ¬ (0 ≤ a ∧ a ≤ (d.S.length : Int) - n) then 4 else if 0 < n ∧ ¬ (a + n ≤ d.lim) then 110 else if d.left = 0 then 111 else 0

theorem write_no (k : Dk) (a : Int) (B : Option Addr) (n c : Nat) (r : Int) (w : World) (h : DiskAt w k) (hn : n ≤ 9223372036854775807) (hr : wErr k.dat a n = r) (h0 : r ≠ 0) :
    Calls Try.prog 17 #[.pointer (some ⟨k.p, 0, none⟩), .int .i64 a, .slice B n c] w fun e w' => e = .returned (.int .i64 r) ∧ w = w' := by
  unfold wErr at hr
  split at hr
  · rename_i h1
    rw [← hr]
    exact write_range k a B n c w h hn h1
  · rename_i h1
    have h1' : 0 ≤ a ∧ a ≤ (k.S.length : Int) - n := Classical.not_not.1 h1
    obtain ⟨off, rfl⟩ := Int.eq_ofNat_of_zero_le h1'.1
    have h3 := h1'.2
    split at hr
    · rename_i h2
      rw [← hr]
      have h2' : ¬ ((off : Int) + n ≤ (k.lim : Int)) := h2.2
      exact write_full k off B n c w h (by omega) (by omega) (by omega)
    · rename_i h2
      have h2' : n = 0 ∨ off + n ≤ k.lim := by
        rcases Nat.eq_zero_or_pos n with hz | hz
        · exact .inl hz
        · right
          have h5 : ¬ ¬ ((off : Int) + n ≤ (k.lim : Int)) := fun h6 => h2 ⟨hz, h6⟩
          omega
      split at hr
      · rename_i h4
        rw [← hr]
        exact write_stop k off B n c w h (by omega) h2' h4
      · exact absurd hr.symm h0

theorem write_ok (k : Dk) (a : Int) (B : Option Addr) (n c : Nat) (xs : List UInt8) (w : World) (h : DiskAt w k) (hn : xs.length = n) (hv : BytesAt w (.slice B n c) xs) (hr : wErr k.dat a n = 0) (hW : k.W.length ≤ 1000000) (hd : k.done < 4611686018427387904) :
    Calls Try.prog 17 #[.pointer (some ⟨k.p, 0, none⟩), .int .i64 a, .slice B n c] w fun e w' => e = .returned (.int .i64 0) ∧ ∃ (off : Nat) (k' : Dk), a = (off : Int) ∧ off + n ≤ k.S.length ∧ Goes w k w' k' ∧ k'.dat = k.dat.write off xs ∧ k'.W.length = k.W.length + 1 := by
  unfold wErr at hr
  split at hr
  · omega
  · rename_i h1
    have h1' : 0 ≤ a ∧ a ≤ (k.S.length : Int) - n := Classical.not_not.1 h1
    obtain ⟨off, rfl⟩ := Int.eq_ofNat_of_zero_le h1'.1
    have h3 := h1'.2
    split at hr
    · omega
    · rename_i h2
      have h2' : n = 0 ∨ off + n ≤ k.lim := by
        rcases Nat.eq_zero_or_pos n with hz | hz
        · exact .inl hz
        · right
          have h5 : ¬ ¬ ((off : Int) + n ≤ (k.lim : Int)) := fun h6 => h2 ⟨hz, h6⟩
          omega
      split at hr
      · omega
      · rename_i h4
        refine (write_yes k off B n c xs w h hn hv (by omega) h2' h4 hW hd).mono ?_
        rintro e w' ⟨he, k', hg, h5, h6⟩
        exact ⟨he, off, k', rfl, by omega, hg, h5, h6⟩

theorem laid_get {S xs : List UInt8} {off i : Nat} (hf : off + xs.length ≤ S.length) (hi : i < off ∨ off + xs.length ≤ i) : (laid S off xs)[i]? = S[i]? := by
  unfold laid
  rcases hi with hi | hi
  · rw [List.getElem?_append_left (by simp; omega), List.getElem?_take, if_pos hi]
  · have h1 : (S.take off).length = off := by simp; omega
    rw [List.getElem?_append_right (by omega), h1, List.getElem?_append_right (by omega), List.getElem?_drop]
    congr 1
    omega

/-- Every place that a row of writes lays is marked. -/
def Covers (T : List Bool) (W : List (Nat × List UInt8)) : Prop := ∀ x ∈ W, ∀ i, x.1 ≤ i → i < x.1 + x.2.length → T[i]? = some true

theorem layAll_get {T : List Bool} {n i : Nat} (hi : T[i]? = some false) : ∀ {W : List (Nat × List UInt8)} {L : List UInt8}, L.length = n → (∀ x ∈ W, x.1 + x.2.length ≤ n) → Covers T W → (layAll L W)[i]? = L[i]? := by
  intro W
  induction W with
  | nil => intros; rfl
  | cons y W ih =>
    intro L hL hf hc
    have hy := hf y (by simp)
    have hout : i < y.1 ∨ y.1 + y.2.length ≤ i := by
      rcases Nat.lt_or_ge i y.1 with h | h
      · exact .inl h
      · rcases Nat.lt_or_ge i (y.1 + y.2.length) with h' | h'
        · have := hc y (by simp) i h h'
          rw [hi] at this
          cases this
        · exact .inr h'
    show (layAll (laid L y.1 y.2) W)[i]? = _
    rw [ih (by rw [length_laid (by omega)]; exact hL) (fun x hx => hf x (by simp [hx])) (fun x hx => hc x (by simp [hx])), laid_get (by omega) hout]

theorem torn_get {d : Dat} {T : List Bool} {n i : Nat} (keep torn : Int) (hi : T[i]? = some false) (hL : d.L.length = n) (hf : ∀ x ∈ d.W, x.1 + x.2.length ≤ n) (hc : Covers T d.W) : (tornOf d keep torn)[i]? = d.L[i]? := by
  have hK : ∀ K, (layAll d.L (d.W.take K))[i]? = d.L[i]? := fun K => layAll_get hi hL (fun x hx => hf x (List.mem_of_mem_take hx)) (fun x hx => hc x (List.mem_of_mem_take hx))
  have hl : ∀ K, (layAll d.L (d.W.take K)).length = n := fun K => length_layAll hL fun x hx => hf x (List.mem_of_mem_take hx)
  unfold tornOf
  split
  · exact hK _
  · rename_i x hx
    have hm : x ∈ d.W := List.mem_of_getElem? hx
    have hxf := hf x hm
    rw [laid_get, hK]
    · rw [hl]; simp; omega
    · rcases Nat.lt_or_ge i x.1 with h | h
      · exact .inl h
      · rcases Nat.lt_or_ge i (x.1 + x.2.length) with h' | h'
        · have := hc x hm i h h'
          rw [hi] at this
          cases this
        · right; simp; omega

theorem torn_none (d : Dat) : tornOf d 0 0 = d.L := by
  have hk : keepOf d 0 = 0 := by simp [keepOf]
  unfold tornOf
  rw [hk]
  split
  · simp [layAll]
  · simp [layAll, laid]

theorem torn_full (d : Dat) : tornOf d (-1) 0 = layAll d.L d.W := by
  have hk : keepOf d (-1) = d.W.length := by
    unfold keepOf
    have : (-1 : Int) % ((d.W.length : Int) + 1) = d.W.length := by
      have := Int.add_mul_emod_self_left (-1) ((d.W.length : Int) + 1) 1
      rw [← this, Int.mul_one, Int.emod_eq_of_lt (by omega) (by omega)]
      omega
    rw [this]
    simp
  unfold tornOf
  rw [hk, List.getElem?_eq_none (Nat.le_refl _)]
  simp

/-- What stands is what lasts, and what waits laid on it. -/
def Dat.ok (d : Dat) : Prop := d.S = layAll d.L d.W
theorem ok_write {d : Dat} (h : d.ok) (off : Nat) (xs : List UInt8) : (d.write off xs).ok := by
  show laid d.S off xs = layAll d.L (d.W ++ [(off, xs)])
  rw [layAll_snoc, ← h]
theorem ok_sync {d : Dat} (h : d.ok) : d.sync.ok := by
  show d.S = layAll (layAll d.L d.W) []
  rw [← h]
  rfl
theorem ok_crash (d : Dat) (keep torn : Int) : (d.crash keep torn).ok := rfl

end Go.Proofs.Ytadpomclnhemoaa
