/- Texts of one proof, laid together: U46. -/
import Derived.Test.YthgpjlmdllihmaaGreatM35
import Derived.Test.YthgpjlmdllihmaaGreatM32
import Derived.Test.YthgpjlmdllihmaaGreatM13
/- A store on a disk that refuses nothing, over Puts; StoreOpens. -/
namespace Go.Proofs.YthgpjlmdllihmaaGreat
open Go.RowKit Go.Shelf Go.Maps
set_option linter.unusedVariables false
set_option linter.unusedSimpArgs false
set_option maxRecDepth 100000

/-- A store that lies behind w0, on a disk that refuses nothing. -/
structure FreeI (w0 : World) (p kp size j : Nat) (wr : World) (s : St) (k : Dk) (T : Tab) : Prop where
  st : StM wr s k T
  sp : s.p = p
  kkp : k.p = kp
  br : s.br = false
  calm : Calm k.dat s.at_ s.turn T
  len : k.S.length = size
  lim : k.lim = size
  left : k.left = -1
  done : k.done ≤ 4 * j
  own : ∀ b ∈ k.all, w0.heap.size ≤ b
  mown : ∀ b, s.m = some b → w0.heap.size ≤ b
  keep : Keeps [] w0 wr
  pl : w0.heap.size ≤ p

theorem FreeI.grow {w0 wr w' : World} {p kp size j : Nat} {s : St} {k : Dk} {T : Tab} (h : FreeI w0 p kp size j wr s k T) (hk : Keeps [] wr w') : FreeI w0 p kp size j w' s k T :=
  ⟨h.st.grow hk, h.sp, h.kkp, h.br, h.calm, h.len, h.lim, h.left, h.done, h.own, h.mown, h.keep.trans' hk, h.pl⟩

/-- What Put answers, and leaves. -/
def putR (size : Nat) (T : Tab) (l : List Chg) : Tab := if putN T l false (size / 2) = 0 then behindT T l else T

theorem FreeI.put {w0 wr w1 w' : World} {p kp size j : Nat} {s s' : St} {k k' : Dk} {T T' : Tab} {l : List Chg} {n : Int} (h : FreeI w0 p kp size j wr s k T) (hk : Keeps [] wr w1) (hp : Put w1 s k T l n s' k' T' w') :
    n = putN T l false (size / 2) ∧ T' = putR size T l ∧ FreeI w0 p kp size (j + 1) w' s' k' T' := by
  obtain ⟨f1, f2, f3, f4⟩ := hp.free_is h.left (by rw [h.lim, h.len])
  rw [h.len] at f1
  have hs := hk.size
  have hs0 := h.keep.size
  have hfr : ∀ (s' : St) (k' : Dk), (∀ b ∈ k'.all, b ∈ k.all ∨ w1.heap.size ≤ b) → ∀ b ∈ k'.all, w0.heap.size ≤ b := fun s' k' ha b hb => by
    rcases ha b hb with hb | hb
    · exact h.own b hb
    · omega
  have hkk : Keeps [] w0 w' := (h.keep.trans' hk).trans hp.keeps (fun x hx => .inr (by
    rcases List.mem_cons.1 hx with hx | hx
    · rw [hx, h.sp]; exact h.pl
    · exact h.own x (fp_sub hx)))
  have hmo : ∀ b, s'.m = some b → w0.heap.size ≤ b := fun b hb => by
    rcases hp.m b hb with hb | hb
    · exact h.mown b hb
    · omega
  refine ⟨f1, ?_, ?_⟩
  · unfold putR
    rw [← f1]
    rcases f4 with ⟨f4, _, _, f5⟩ | ⟨f4, _, _, f5⟩
    · rw [if_neg f4]; exact f5
    · rw [if_pos f4]; exact f5
  · rcases f4 with ⟨_, g1, g2, g3⟩ | ⟨_, g1, g2, g3⟩
    · subst g1
      subst g3
      exact ⟨hp.st, h.sp, hp.kp.trans h.kkp, h.br, by rw [g2]; exact h.calm, hp.len.trans h.len, hp.lim.trans h.lim, f2, by have := hp.done.2; have := h.done; omega, hfr s' k' hp.all, hmo, hkk, h.pl⟩
    · exact ⟨hp.st, hp.p.trans h.sp, hp.kp.trans h.kkp, g1, g2, hp.len.trans h.len, hp.lim.trans h.lim, f2, by have := hp.done.2; have := h.done; omega, hfr s' k' hp.all, hmo, hkk, h.pl⟩

theorem sameWs_self (W : List (Nat × List UInt8)) : sameWs W W = true := by
  induction W with
  | nil => rfl
  | cons x r ih => simp [sameWs, sameW, ih]

theorem sameDat_self (d : Dat) : sameDat d d = true := by
  simp [sameDat, sameWs_self]

/-- Behind New and Open. -/
theorem freeI_new {w w1 w2 : World} {k : Dk} {p n : Nat} {m : Option Nat} (hs : StM w2 ⟨p, n / 2, 0, m, k.p, false⟩ k []) (hc : Calm k.dat (n / 2) 0 []) (hlen : k.S.length = n) (h4 : k.lim = n) (h5 : k.left = -1) (h6 : k.done = 0) (hn : ∀ b ∈ k.all, w.heap.size ≤ b) (hk1 : Keeps [] w w1) (hm : ∀ b, m = some b → w1.heap.size ≤ b) (hp : w1.heap.size ≤ p) (hk : Keeps [] w1 w2) : FreeI w p k.p n 0 w2 ⟨p, n / 2, 0, m, k.p, false⟩ k [] :=
  ⟨hs, rfl, rfl, rfl, hc, hlen, h4, h5, by omega, hn, fun b hb => Nat.le_trans hk1.size (hm b hb), hk1.trans' hk, Nat.le_trans hk1.size hp⟩

end Go.Proofs.YthgpjlmdllihmaaGreat
