/- does: Write, whatever it answers. -/
import Derived.Test.YtadpomclnhemoaaS7
namespace Go.Proofs.Ytadpomclnhemoaa
open Go.RowKit
set_option linter.unusedVariables false

theorem refwrite_no (r : Rf) (a : Int) (B : Option Addr) (n c : Nat) (no : Int) (w : World) (h : RefAt w r) (ha : i64 a) (hn : n ≤ 9223372036854775807) (hr : rErr r.L r.lim r.armed a n = no) (h0 : no ≠ 0) :
    Calls Try.prog 29 #[r.v, .int .i64 a, .slice B n c] w fun e w' => e = .returned (.tuple #[r.v, .int .i64 no]) ∧ Below w.heap.size w w' := by
  have hbig := h.big
  have hlim := h.lim
  unfold rErr at hr
  split at hr
  · rename_i h1
    rw [← hr]
    exact refwrite_range r a B n c w ha hbig hn h1
  · rename_i h1
    have h1' : 0 ≤ a ∧ a ≤ (r.L.length : Int) - n := Classical.not_not.1 h1
    obtain ⟨off, rfl⟩ := Int.eq_ofNat_of_zero_le h1'.1
    split at hr
    · rename_i h2
      rw [← hr]
      exact refwrite_full r off B n c w hbig (by omega) h2.1 (by omega) (by omega)
    · rename_i h2
      split at hr
      · rename_i h3
        rw [← hr]
        exact refwrite_stop r off B n c w hbig (by omega) (by omega) (by omega) h3
      · exact absurd hr.symm h0

theorem rErr_ok {L : List UInt8} {lim : Nat} {armed a : Int} {n : Nat} (h : rErr L lim armed a n = 0) : ∃ off : Nat, a = (off : Int) ∧ off + n ≤ L.length ∧ (n = 0 ∨ off + n ≤ lim) ∧ armed ≠ 0 := by
  unfold rErr at h
  split at h
  · omega
  · rename_i h1
    have h1' : 0 ≤ a ∧ a ≤ (L.length : Int) - n := Classical.not_not.1 h1
    obtain ⟨off, rfl⟩ := Int.eq_ofNat_of_zero_le h1'.1
    split at h
    · omega
    · split at h
      · omega
      · rename_i h2 h3
        exact ⟨off, rfl, by omega, by omega, h3⟩

theorem rErr_i64 (L : List UInt8) (lim : Nat) (armed a : Int) (n : Nat) : i64 (rErr L lim armed a n) := by
  unfold rErr i64
  split
  · omega
  · split
    · omega
    · split <;> omega

theorem does_write_any (k : Dk) (r : Rf) (x : ActD) (w : World) (h : Pair w k r) (h1 : x.kind = 1) (hx : BytesAt w (.slice x.A x.bs.length x.c) x.bs) (hn : x.bs.length ≤ 9223372036854775807) (ha : i64 x.at_) (hE : wErr k.dat x.at_ x.bs.length = rErr r.L r.lim r.armed x.at_ x.bs.length) (hW : k.W.length ≤ 1000000) (hd : k.done < 4611686018427387904) :
    Calls Try.prog 13 #[.pointer (some ⟨k.p, 0, none⟩), r.v, x.v] w fun e w' => ∃ k' q, e = .returned (.tuple #[.pointer (some ⟨k'.p, 0, none⟩), q.v, .bool true]) ∧ Went w k r w' k' q := by
  have hrW : r.W.length ≤ 1000000 := by rw [← h.ag.wlen]; exact hW
  have hrd : r.done < 4611686018427387904 := by rw [← h.ag.done]; exact hd
  have hi := rErr_i64 r.L r.lim r.armed x.at_ x.bs.length
  by_cases h0 : rErr r.L r.lim r.armed x.at_ x.bs.length = 0
  · rw [h0] at hE
    obtain ⟨off, e1, f1, f2, f3⟩ := rErr_ok h0
    refine does_write k r x w 0 (fun q => q.L = r.L ∧ wdat q.W = wdat r.W ++ [(off, x.bs)] ∧ q.armed = lessOne r.armed ∧ q.lim = r.lim ∧ q.done = r.done + 1) (fun k' => k'.dat = k.dat.write off x.bs ∧ k'.W.length = k.W.length + 1 ∧ off + x.bs.length ≤ k.S.length) h h1 ⟨by omega, by omega⟩ (fun W hk => ?_) (fun W hk => (write_ok k x.at_ x.A x.bs.length x.c x.bs W (h.disk.grow hk) rfl (hx.grow hk) hE hW hd).mono ?_) ?_
    · rw [e1]
      refine (refwrite_ok r off x.A x.bs.length x.c x.bs W (h.ref.grow hk) rfl (hx.grow hk) f1 f2 f3 hrW hrd).mono ?_
      rintro e w' ⟨A, c', v, he, hq, hqa, hb⟩
      exact ⟨_, he, hq, hqa, ⟨rfl, by simp [Rf.wrote, wdat], rfl, rfl, rfl⟩, Keeps.of_below hb⟩
    · rintro e w' ⟨he, off', k', e2, g1, hg, g2, g3⟩
      have e3 : off' = off := by omega
      subst e3
      exact ⟨he, k', hg, g2, g3, g1⟩
    · rintro q k' ⟨q1, q2, q3, q4, q5⟩ ⟨hk', hl, hf⟩
      have e3 : k'.L = k.L := congrArg Dat.L hk'
      have e4 : wdat k'.W = wdat k.W ++ [(off, x.bs)] := congrArg Dat.W hk'
      refine ⟨⟨?_, ?_, ?_, ?_, ?_, ?_⟩, ?_, by omega, ?_⟩
      · rw [e3, q1, h.ag.L]
      · rw [e4, q2, h.ag.W]
      · rw [q4, ← h.ag.lim]; exact dat_lim hk'
      · rw [q3, ← h.ag.left]; exact dat_left hk'
      · rw [q5, ← h.ag.done]; exact dat_done hk'
      · rw [hk']; exact ok_write h.ag.ok off x.bs
      · rw [dat_S hk']; exact length_laid hf
      · rw [dat_done hk']; exact Nat.le_refl _
  · refine does_write k r x w _ (fun q => q = r) (fun k' => k' = k) h h1 hi (fun W hk => (refwrite_no r x.at_ x.A x.bs.length x.c _ W (h.ref.grow hk) ha hn rfl h0).mono ?_) (fun W hk => (write_no k x.at_ x.A x.bs.length x.c _ W (h.disk.grow hk) hn hE h0).mono ?_) ?_
    · rintro e w' ⟨he, hb⟩
      exact ⟨r, he, (h.ref.grow hk).grow (Keeps.of_below hb), fun b hb => .inl hb, rfl, Keeps.of_below hb⟩
    · rintro e w' ⟨he, rfl⟩
      exact ⟨he, k, Goes.refl (h.disk.grow hk), rfl⟩
    · rintro q k' rfl rfl
      exact ⟨h.ag, rfl, Nat.le_succ _, Nat.le_succ _⟩

end Go.Proofs.Ytadpomclnhemoaa
