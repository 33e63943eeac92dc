/- Texts of one proof, laid together: U41. -/
import Derived.Test.YthgpjlmdllihmaaGreatM31
import Derived.Test.YthgpjlmdllihmaaGreatM30
import Derived.Test.YthgpjlmdllihmaaGreatM25
/- StoreTurns: one key set again and again. -/
namespace Go.Proofs.YthgpjlmdllihmaaGreat
open Go.RowKit Go.Shelf Go.Maps
set_option linter.unusedVariables false
set_option linter.unusedSimpArgs false
set_option maxRecDepth 100000

theorem prs_of_own {w : World} {base : Nat} {A : Option Addr} {c n : Nat} {T : Tab} (h : w.ownsRow base 75 2 (.slice A n c) n (pairCells T)) (hl : T.length = n) : PrsAt w A n T := by
  refine ⟨hl, fun i p hp => ?_⟩
  have hi : i < T.length := by
    rcases Nat.lt_or_ge i T.length with h | h
    · exact h
    · rw [List.getElem?_eq_none h] at hp; cases hp
  obtain ⟨g, cap, hv, _⟩ := h.form (by omega)
  injection hv with hv1 hv2 hv3
  subst hv1
  have hg : ∀ (T : Tab) (i : Nat) (p : List UInt8 × List UInt8), T[i]? = some p → (pairCells T)[i * 2]? = some (sv p.1) ∧ (pairCells T)[i * 2 + 1]? = some (sv p.2) := by
    intro T
    induction T with
    | nil => intro i p h; simp at h
    | cons x r ih =>
      intro i p h
      cases i with
      | zero => simp at h; subst h; exact ⟨rfl, rfl⟩
      | succ i =>
        have := ih i p (by simpa using h)
        have e : pairCells (x :: r) = sv x.1 :: sv x.2 :: pairCells r := rfl
        rw [e, show (i + 1) * 2 = i * 2 + 1 + 1 by omega]
        exact this
  obtain ⟨q1, q2⟩ := hg T i p hp
  refine ⟨g, 0, rfl, ?_, ?_⟩
  · rw [Nat.zero_add, h.cellAt (i * 2) (by omega)]; exact q1
  · rw [Nat.zero_add, h.cellAt (i * 2 + 1) (by omega)]; exact q2

/-- One pair in a row of its own. -/
theorem prs_one (w : World) (k v : List UInt8) : PrsAt (w.alloc (.cells #[sv k, sv v] 75)) (some ⟨w.heap.size, 0, none⟩) 1 [(k, v)] := by
  refine ⟨rfl, fun i p hp => ?_⟩
  match i, hp with
  | 0, hp =>
    injection hp with hp
    subst hp
    refine ⟨w.heap.size, 0, rfl, ?_, ?_⟩
    · rw [World.cell?_alloc_new]; rfl
    · rw [World.cell?_alloc_new]; rfl

/-- All, as pairs. -/
theorem all_any {w : World} {s : St} {k : Dk} {T : Tab} (h : StM w s k T) : Calls Tryz.prog 10 #[.pointer (some ⟨s.p, 0, none⟩)] w fun e w' => ∃ A c, e = .returned (.slice A T.length c) ∧ PrsAt w' A T.length T ∧ (∀ a, A = some a → w.heap.size ≤ a.block) ∧ Keeps [] w w' := by
  refine (all_ok h.st h.tab h.good).mono ?_
  rintro e w' ⟨A, c, rfl, ho, hk⟩
  refine ⟨A, c, rfl, prs_of_own ho rfl, fun a ha => ?_, hk⟩
  subst ha
  exact (ho.lt _ rfl).1

theorem behind_one (T : Tab) (v : List UInt8) (h : T = [] ∨ ∃ u, T = [([107], u)]) : behindT T [⟨[107], v, false⟩] = [([107], v)] := by
  rcases h with rfl | ⟨u, rfl⟩
  · rfl
  · rfl

theorem turn_fits {T : Tab} {v : List UInt8} {long size : Nat} (h : T = [] ∨ ∃ u, T = [([107], u)]) (hv : v.length = long) (hl : long ≤ 60) (hf : 17 + long + 64 ≤ size / 2) : putN T [⟨[107], v, false⟩] false (size / 2) = 0 := by
  unfold putN
  have h1 : chgsOk [⟨[107], v, false⟩] = true := by
    simp [chgsOk, Chg.ok, csize, hv]
    omega
  rw [behind_one T v h, if_neg (by rw [h1]; decide), if_neg (by simp), if_neg (by decide), if_pos]
  simp [tweight, hv]
  omega

theorem u8_some (x : Int) : ∃ y : UInt8, IntKind.wrap .u8 x = (y.toNat : Int) := by
  have h1 : 0 ≤ IntKind.wrap .u8 x ∧ IntKind.wrap .u8 x < 256 := by
    have e : IntKind.wrap .u8 x = x % 256 := rfl
    rw [e]
    omega
  refine ⟨UInt8.ofNat (IntKind.wrap .u8 x).toNat, ?_⟩
  rw [UInt8.toNat_ofNat']
  omega

/-- What a round of StoreTurns finds. -/
structure TurnI (w0 : World) (p kp size j : Nat) (wr : World) (s : St) (k : Dk) (T : Tab) : Prop where
  st : StM wr s k T
  sp : s.p = p
  kkp : k.p = kp
  br : s.br = false
  calm : Calm k.dat s.at_ s.turn T
  len : k.S.length = size
  lim : k.lim = size
  left : k.left = -1
  done : k.done ≤ 4 * j
  tab : T = [] ∨ ∃ v, T = [([107], v)]
  own : ∀ b ∈ k.all, w0.heap.size ≤ b
  keep : Keeps [] w0 wr
  pl : w0.heap.size ≤ p

theorem TurnI.grow {w0 wr w' : World} {p kp size j : Nat} {s : St} {k : Dk} {T : Tab} (h : TurnI w0 p kp size j wr s k T) (hk : Keeps [] wr w') : TurnI w0 p kp size j w' s k T :=
  ⟨h.st.grow hk, h.sp, h.kkp, h.br, h.calm, h.len, h.lim, h.left, h.done, h.tab, h.own, h.keep.trans' hk, h.pl⟩

/-- Behind a Put. -/
theorem TurnI.put {w0 wr w1 w' : World} {p kp size j long : Nat} {s s' : St} {k k' : Dk} {T T' : Tab} {v : List UInt8} {n : Int} (h : TurnI w0 p kp size j wr s k T) (hk : Keeps [] wr w1) (hv : v.length = long) (hl : long ≤ 60) (hf : 17 + long + 64 ≤ size / 2) (hp : Put w1 s k T [⟨[107], v, false⟩] n s' k' T' w') :
    n = 0 ∧ T' = [([107], v)] ∧ TurnI w0 p kp size (j + 1) w' s' k' T' := by
  obtain ⟨f1, f2, f3, f4⟩ := hp.free_is h.left (by rw [h.lim, h.len])
  rw [h.len, turn_fits h.tab hv hl hf] at f1
  have hs := hk.size
  have hs0 := h.keep.size
  rcases f4 with ⟨f4, _⟩ | ⟨_, g1, g2, g3⟩
  · exact absurd f1 f4
  · rw [behind_one T v h.tab] at g3
    refine ⟨f1, g3, hp.st, hp.p.trans h.sp, hp.kp.trans h.kkp, g1, g2, hp.len.trans h.len, hp.lim.trans h.lim, f2, by have := hp.done.2; have := h.done; omega, .inr ⟨v, g3⟩, fun b hb => ?_, (h.keep.trans' hk).trans hp.keeps (fun x hx => .inr ?_), h.pl⟩
    · rcases hp.all b hb with hb | hb
      · exact h.own b hb
      · omega
    · rcases List.mem_cons.1 hx with hx | hx
      · rw [hx, h.sp]; exact h.pl
      · exact h.own x (fp_sub hx)

end Go.Proofs.YthgpjlmdllihmaaGreat
