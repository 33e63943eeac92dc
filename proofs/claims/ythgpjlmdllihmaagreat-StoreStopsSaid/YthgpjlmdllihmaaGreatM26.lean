/- Texts of one proof, laid together: U31 U32. -/
import Derived.Test.YthgpjlmdllihmaaGreatM24
/- A Put's four steps as numbers and bytes; calls of a disk one behind the other. -/
namespace Go.Proofs.YthgpjlmdllihmaaGreat
open Go.RowKit Go.Shelf Go.Maps
set_option linter.unusedVariables false
set_option linter.unusedSimpArgs false
set_option maxRecDepth 100000

/-- What the four steps answer, and leave. -/
def putD (d : Dat) (at_ : Nat) (im : List UInt8) : Int × Dat :=
  if ¬ at_ + im.length ≤ d.lim then (110, d) else
  if d.left = 0 then (111, d) else
  if (d.write at_ (headless im)).left = 0 then (111, d.write at_ (headless im)) else
  if (d.write at_ (headless im)).sync.left = 0 then (111, (d.write at_ (headless im)).sync) else
  if ((d.write at_ (headless im)).sync.write at_ (im.take 8)).left = 0 then (111, (d.write at_ (headless im)).sync.write at_ (im.take 8)) else
  (0, ((d.write at_ (headless im)).sync.write at_ (im.take 8)).sync)

theorem Goes.here {w : World} {k : Dk} (h : DiskAt w k) : Goes w k w k := ⟨h, rfl, fun b hb => .inl hb, fun b hb => .inl hb, Keeps.refl _ w⟩
theorem Goes.calm {w w' : World} {k : Dk} (h : DiskAt w k) (hk : Keeps [] w w') : Goes w k w' k := ⟨h.grow hk, rfl, fun b hb => .inl hb, fun b hb => .inl hb, hk.mono (by simp)⟩
theorem Goes.next {w w1 w2 : World} {k k1 k2 : Dk} (h1 : Goes w k w1 k1) (h2 : Goes w1 k1 w2 k2) : Goes w k w2 k2 := by
  have hs := h1.keeps.size
  refine ⟨h2.disk, h2.p.trans h1.p, ?_, ?_, ?_⟩
  · intro b hb
    rcases h2.fp b hb with h | h
    · exact h1.fp b h
    · right; omega
  · intro b hb
    rcases h2.all b hb with h | h
    · exact h1.all b h
    · right; omega
  · exact h1.keeps.trans h2.keeps (fun x hx => h1.fp x hx)

theorem headless_len' {xs : List UInt8} (h : 8 ≤ xs.length) : (headless xs).length = xs.length := by
  unfold headless
  simp
  omega

end Go.Proofs.YthgpjlmdllihmaaGreat
/- The two halves of a disk, over a Put and over a crash: which one counts. -/
namespace Go.Proofs.YthgpjlmdllihmaaGreat
open Go.RowKit Go.Maps
set_option linter.unusedVariables false
set_option linter.unusedSimpArgs false

theorem laidAt_in {S xs : List UInt8} {off i : Nat} (hf : off + xs.length ≤ S.length) (h1 : off ≤ i) (h2 : i < off + xs.length) : (laid S off xs)[i]? = xs[i - off]? := by
  unfold laid
  rw [List.getElem?_append_right (by rw [List.length_take]; omega), List.length_take, Nat.min_eq_left (by omega), List.getElem?_append_left (by omega)]
theorem laidAt_out {S xs : List UInt8} {off i : Nat} (hf : off + xs.length ≤ S.length) (hi : i < off ∨ off + xs.length ≤ i) : (laid S off xs)[i]? = S[i]? := by
  unfold laid
  rcases hi with hi | hi
  · rw [List.getElem?_append_left (by rw [List.length_take]; omega), List.getElem?_take, if_pos hi]
  · rw [List.getElem?_append_right (by rw [List.length_take]; omega), List.length_take, Nat.min_eq_left (by omega), List.getElem?_append_right (by omega), List.getElem?_drop]
    congr 1
    omega
theorem laid_nil (S : List UInt8) (off : Nat) : laid S off [] = S := by simp [laid, List.take_append_drop]

theorem arX_get {S : List UInt8} {at_ i : Nat} (hi : i < S.length / 2) : (arX S at_)[i]? = S[at_ + i]? := by
  unfold arX
  rw [List.getElem?_take, if_pos hi, List.getElem?_drop]
theorem arX_len {S : List UInt8} {at_ : Nat} (h : at_ + S.length / 2 ≤ S.length) : (arX S at_).length = S.length / 2 := by
  unfold arX
  rw [List.length_take, List.length_drop]
  omega

/-- What is laid into one half leaves the other. -/
theorem arX_other {S xs : List UInt8} {at_ : Nat} (ha : at_ = 0 ∨ at_ = S.length / 2) (hx : xs.length ≤ S.length / 2) : arX (laid S (S.length / 2 - at_) xs) at_ = arX S at_ := by
  have hl : (laid S (S.length / 2 - at_) xs).length = S.length := length_laid (by omega)
  apply List.ext_getElem?
  intro i
  by_cases hi : i < S.length / 2
  · rw [arX_get (by rw [hl]; exact hi), arX_get hi, laidAt_out (by omega) (by omega)]
  · have h1 : (arX (laid S (S.length / 2 - at_) xs) at_).length ≤ S.length / 2 := by unfold arX; rw [List.length_take, hl]; omega
    have h2 : (arX S at_).length ≤ S.length / 2 := by unfold arX; rw [List.length_take]; omega
    rw [List.getElem?_eq_none (by omega), List.getElem?_eq_none (by omega)]
/-- .. and stands ahead there. -/
theorem arX_own {S xs : List UInt8} {at_ : Nat} (ha : at_ + S.length / 2 ≤ S.length) (hx : xs.length ≤ S.length / 2) : arX (laid S at_ xs) at_ = xs ++ (arX S at_).drop xs.length := by
  have hl : (laid S at_ xs).length = S.length := length_laid (by omega)
  apply List.ext_getElem?
  intro i
  by_cases hi : i < S.length / 2
  · rw [arX_get (by rw [hl]; exact hi)]
    by_cases hx2 : i < xs.length
    · rw [laidAt_in (by omega) (by omega) (by omega), List.getElem?_append_left hx2]
      congr 1
      omega
    · rw [laidAt_out (by omega) (by omega), List.getElem?_append_right (by omega), List.getElem?_drop, arX_get (by omega)]
      congr 1
      omega
  · have h1 := arX_len (S := laid S at_ xs) (at_ := at_) (by rw [hl]; exact ha)
    have h2 := arX_len ha
    rw [List.getElem?_eq_none (by rw [h1, hl]; omega), List.getElem?_eq_none (by rw [List.length_append, List.length_drop, h2]; omega)]

/-- The half at `at_` counts: of this turn, with this table. -/
structure Holds (S : List UInt8) (at_ turn : Nat) (T : Tab) : Prop where
  big : 256 ≤ S.length
  a : latAt S = at_
  t : latT S = turn
  tab : latTab S = T
  good : Good T
  fit : tweight T + 64 ≤ S.length / 2

section
variable {S S' : List UInt8} {at_ turn : Nat} {T : Tab}
theorem Holds.half (h : Holds S at_ turn T) : at_ = 0 ∨ at_ = S.length / 2 := by
  rw [← h.a]
  unfold latAt
  split
  · exact .inl rfl
  · exact .inr rfl
theorem Holds.turnlt (h : Holds S at_ turn T) : turn < 4294967296 := by rw [← h.t]; exact arT_lt _ _
theorem Holds.first (h : Holds S at_ turn T) (h0 : at_ = 0) : inFirst S = true := by
  have hb := h.big
  have ha := h.a
  unfold latAt at ha
  split at ha
  · assumption
  · omega
theorem Holds.second (h : Holds S at_ turn T) (h0 : at_ ≠ 0) : inFirst S = false := by
  have hb := h.big
  have ha := h.a
  unfold latAt at ha
  split at ha
  · omega
  · rename_i hn; simpa using hn

/-- No table in the other half. -/
theorem Holds.none (h : Holds S at_ turn T) (hl : S'.length = S.length) (hs : arX S' at_ = arX S at_) (hn : areaP (S.length / 2) (arX S' (S.length / 2 - at_)) = Option.none) : Holds S' at_ turn T := by
  have hb := h.big
  have key : latAt S' = at_ := by
    rcases h.half with h0 | h0
    · have hf := h.first h0
      unfold latAt inFirst
      unfold inFirst at hf
      subst h0
      rw [hl, hs]
      rw [Nat.sub_zero] at hn
      have h1 : arIs (S.length / 2) (arX S' (S.length / 2)) = false := by unfold arIs; rw [hn]; rfl
      simp only [Bool.and_eq_true] at hf
      rw [hf.1, h1]
      simp
    · have h1 : arIs (S.length / 2) (arX S' 0) = false := by
        rw [show S.length / 2 - at_ = 0 by omega] at hn
        unfold arIs
        rw [hn]
        rfl
      unfold latAt inFirst
      rw [hl, h1]
      simp [h0]
  refine ⟨by omega, key, ?_, ?_, h.good, by rw [hl]; exact h.fit⟩
  · have := h.t
    unfold latT at this ⊢
    rw [key, hl, hs]
    rw [h.a] at this
    exact this
  · have := h.tab
    unfold latTab at this ⊢
    rw [key, hl, hs]
    rw [h.a] at this
    exact this

/-- A later one there. -/
theorem Holds.later {turn' : Nat} {T' : Tab} (h : Holds S at_ turn T) (hl : S'.length = S.length) (hs : arX S' at_ = arX S at_) (hn : areaP (S.length / 2) (arX S' (S.length / 2 - at_)) = some (turn', T')) (h1 : laterT turn' turn = true) (h2 : laterT turn turn' = false) (hg : Good T') (hf : tweight T' + 64 ≤ S.length / 2) : Holds S' (S.length / 2 - at_) turn' T' := by
  have hb := h.big
  have i1 : arIs (S.length / 2) (arX S' (S.length / 2 - at_)) = true := by unfold arIs; rw [hn]; rfl
  have i2 : arT (S.length / 2) (arX S' (S.length / 2 - at_)) = turn' := by unfold arT; rw [hn]
  have i3 : arTab (S.length / 2) (arX S' (S.length / 2 - at_)) = T' := by unfold arTab; rw [hn]
  have it : arT (S.length / 2) (arX S' at_) = turn := by
    have := h.t
    unfold latT at this
    rw [h.a] at this
    rw [hs, this]
  have key : latAt S' = S.length / 2 - at_ := by
    rcases h.half with h0 | h0
    · subst h0
      rw [Nat.sub_zero] at i1 i2 ⊢
      unfold latAt inFirst
      rw [hl, i1, i2, it, h2]
      simp
    · rw [show S.length / 2 - at_ = 0 by omega] at i1 i2 ⊢
      rw [h0] at it
      unfold latAt inFirst
      rw [hl, i1, i2, it, h1]
      simp
  refine ⟨by omega, key, ?_, ?_, hg, by rw [hl]; exact hf⟩
  · unfold latT
    rw [key, hl]
    exact i2
  · unfold latTab
    rw [key, hl]
    exact i3
end

theorem later_next {t : Nat} (ht : t < 4294967296) : laterT ((t + 1) % 4294967296) t = true ∧ laterT t ((t + 1) % 4294967296) = false := by
  unfold laterT
  constructor
  · simp only [decide_eq_true_eq]
    omega
  · simp only [decide_eq_false_iff_not]
    omega

section
variable {S : List UInt8} {at_ turn : Nat} {T : Tab}
/-- Behind a Put's first write, whole or torn. -/
theorem holds_w1 (h : Holds S at_ turn T) {im : List UInt8} (h8 : 8 ≤ im.length) (hx : im.length ≤ S.length / 2) (t : Nat) : Holds (laid S (S.length / 2 - at_) ((headless im).take t)) at_ turn T := by
  have hb := h.big
  have hh := h.half
  have hhl := headless_len h8
  rcases Nat.eq_zero_or_pos t with rfl | ht
  · rw [List.take_zero, laid_nil]
    exact h
  · have hxl : ((headless im).take t).length ≤ S.length / 2 := by rw [List.length_take]; omega
    have hl : (laid S (S.length / 2 - at_) ((headless im).take t)).length = S.length := length_laid (by omega)
    refine h.none hl (arX_other hh hxl) ?_
    rw [arX_own (by omega) hxl]
    refine area_head0 ?_
    rw [List.getElem?_append_left (by rw [List.length_take]; omega), List.getElem?_take, if_pos ht]
    unfold headless
    rw [List.getElem?_append_left (by simp), List.getElem?_replicate, if_pos (by omega)]
    decide

theorem laid_laid {S xs ys : List UInt8} {off : Nat} (h1 : off + xs.length ≤ S.length) (h2 : ys.length ≤ xs.length) : laid (laid S off xs) off ys = laid S off (ys ++ xs.drop ys.length) := by
  have hl : (laid S off xs).length = S.length := length_laid h1
  have hl2 : (ys ++ xs.drop ys.length).length = xs.length := by rw [List.length_append, List.length_drop]; omega
  apply List.ext_getElem?
  intro i
  by_cases hi : off ≤ i ∧ i < off + xs.length
  · rw [laidAt_in (xs := ys ++ xs.drop ys.length) (by omega) hi.1 (by omega)]
    by_cases hy : i < off + ys.length
    · rw [laidAt_in (by omega) hi.1 hy, List.getElem?_append_left (by omega)]
    · rw [laidAt_out (by omega) (by omega), laidAt_in h1 hi.1 hi.2, List.getElem?_append_right (by omega), List.getElem?_drop]
      congr 1
      omega
  · rw [laidAt_out (xs := ys ++ xs.drop ys.length) (by omega) (by omega), laidAt_out (by omega) (by omega), laidAt_out h1 (by omega)]

theorem headless_back {im : List UInt8} (h8 : 8 ≤ im.length) : im.take 8 ++ (headless im).drop (im.take 8).length = im := by
  have h1 : (im.take 8).length = 8 := by rw [List.length_take]; omega
  rw [h1]
  unfold headless
  rw [List.drop_left' (by simp), List.take_append_drop]

/-- The second write, torn. -/
theorem holds_w2_torn (h : Holds S at_ turn T) {im : List UInt8} (h8 : 8 ≤ im.length) (hx : im.length ≤ S.length / 2) {t : Nat} (ht : t < 8) : Holds (laid (laid S (S.length / 2 - at_) (headless im)) (S.length / 2 - at_) ((im.take 8).take t)) at_ turn T := by
  have hb := h.big
  have hh := h.half
  have hhl := headless_len h8
  rw [List.take_take, Nat.min_eq_left (by omega)]
  have htl : (im.take t).length = t := by rw [List.length_take]; omega
  have hxl : (im.take t ++ (headless im).drop t).length ≤ S.length / 2 := by rw [List.length_append, List.length_drop]; omega
  rw [laid_laid (by omega) (by omega), htl]
  have hl : (laid S (S.length / 2 - at_) (im.take t ++ (headless im).drop t)).length = S.length := length_laid (by omega)
  refine h.none hl (arX_other hh hxl) ?_
  rw [arX_own (by omega) hxl]
  refine area_head7 ?_
  have hy : (im.take t ++ (headless im).drop t).length = im.length := by rw [List.length_append, List.length_drop]; omega
  rw [List.getElem?_append_left (by omega), List.getElem?_append_right (by omega), List.getElem?_drop, htl, show t + (7 - t) = 7 by omega]
  unfold headless
  rw [List.getElem?_append_left (by simp), List.getElem?_replicate, if_pos (by omega)]
  decide

/-- .. and whole. -/
theorem holds_w2 (h : Holds S at_ turn T) {T' : Tab} (hg : Good T') (hf : tweight T' + 64 ≤ S.length / 2) {im : List UInt8} (him : im = image ((turn + 1) % 4294967296) T') :
    Holds (laid (laid S (S.length / 2 - at_) (headless im)) (S.length / 2 - at_) (im.take 8)) (S.length / 2 - at_) ((turn + 1) % 4294967296) T' := by
  have hb := h.big
  have hh := h.half
  have hil := image_len ((turn + 1) % 4294967296) T'
  rw [← him] at hil
  have h8 : 8 ≤ im.length := by omega
  have hhl := headless_len h8
  have h88 : (im.take 8).length = 8 := by rw [List.length_take]; omega
  rw [laid_laid (by omega) (by omega), headless_back h8]
  have hl : (laid S (S.length / 2 - at_) im).length = S.length := length_laid (by omega)
  obtain ⟨l1, l2⟩ := later_next h.turnlt
  refine h.later hl (arX_other hh (by omega)) ?_ l1 l2 hg hf
  rw [arX_own (by omega) (by omega), him]
  exact area_image (Nat.mod_lt _ (by decide)) hg hf _
end

/-- What a crash leaves of a disk where nothing, where one write waits. -/
theorem torn_calm {d : Dat} (h : d.W = []) (keep torn : Int) : tornOf d keep torn = d.L := by
  unfold tornOf
  rw [h]
  simp [layAll]
theorem torn_one {d : Dat} {off : Nat} {xs : List UInt8} (h : d.W = [(off, xs)]) (keep torn : Int) : ∃ t, t ≤ xs.length ∧ tornOf d keep torn = laid d.L off (xs.take t) := by
  unfold tornOf
  have hk : keepOf d keep = 0 ∨ keepOf d keep = 1 := by
    unfold keepOf
    rw [h]
    simp only [List.length_singleton]
    omega
  rcases hk with hk | hk
  · rw [hk, h]
    refine ⟨(torn % ((xs.length : Int) + 1)).toNat, ?_, ?_⟩
    · have h1 := Int.emod_nonneg torn (show ((xs.length : Int) + 1) ≠ 0 by omega)
      have h2 := Int.emod_lt_of_pos torn (show 0 < ((xs.length : Int) + 1) by omega)
      omega
    · simp [layAll]
  · rw [hk, h]
    exact ⟨xs.length, Nat.le_refl _, by simp [layAll]⟩

/-- A disk on which nothing waits, and a table stands that counts. -/
structure Calm (d : Dat) (at_ turn : Nat) (T : Tab) : Prop where
  w : d.W = []
  l : d.L = d.S
  holds : Holds d.S at_ turn T
  lim : d.lim ≤ d.S.length
/-- A disk that stopped within a Put: whatever a crash leaves, the one table or the other. -/
def Torn (d : Dat) (at_ turn : Nat) (T : Tab) (at' turn' : Nat) (T' : Tab) : Prop := ∀ keep torn, Holds (tornOf d keep torn) at_ turn T ∨ Holds (tornOf d keep torn) at' turn' T'

theorem lessOne_free {n : Int} (h : n = -1) : lessOne n = -1 := by subst h; decide

theorem putD_is {d : Dat} {at_ turn : Nat} {T T' : Tab} (h : Calm d at_ turn T) (hg : Good T') (hf : tweight T' + 64 ≤ d.S.length / 2) {no : Int} {d' : Dat} (hp : putD d (d.S.length / 2 - at_) (image ((turn + 1) % 4294967296) T') = (no, d')) :
    d'.S.length = d.S.length ∧ d'.lim = d.lim ∧ d.done ≤ d'.done ∧ d'.done ≤ d.done + 4 ∧ d'.W.length ≤ 1 ∧ (d.left = -1 → d'.left = -1 ∧ no ≠ 111) ∧ (d.lim = d.S.length → no ≠ 110) ∧
    (no = 0 ∧ Calm d' (d.S.length / 2 - at_) ((turn + 1) % 4294967296) T' ∨ no = 110 ∧ d' = d ∨ no = 111 ∧ Torn d' at_ turn T (d.S.length / 2 - at_) ((turn + 1) % 4294967296) T') := by
  obtain ⟨im, him⟩ : ∃ im, image ((turn + 1) % 4294967296) T' = im := ⟨_, rfl⟩
  have hb := h.holds.big
  have hh := h.holds.half
  have hil := image_len ((turn + 1) % 4294967296) T'
  rw [him] at hp hil
  have h8 : 8 ≤ im.length := by omega
  have hhl := headless_len h8
  have h88 : (im.take 8).length = 8 := by rw [List.length_take]; omega
  have hl1 : (laid d.S (d.S.length / 2 - at_) (headless im)).length = d.S.length := length_laid (by omega)
  have hl2 : (laid (laid d.S (d.S.length / 2 - at_) (headless im)) (d.S.length / 2 - at_) (im.take 8)).length = d.S.length := by rw [length_laid (by omega), hl1]
  have w1 := holds_w1 h.holds h8 (by omega)
  have w1a : Holds (laid d.S (d.S.length / 2 - at_) (headless im)) at_ turn T := by
    have := w1 (headless im).length
    rwa [List.take_length] at this
  have w2 := fun t ht => holds_w2_torn h.holds h8 (show im.length ≤ d.S.length / 2 by omega) (t := t) ht
  have w3 := holds_w2 h.holds hg hf him.symm
  have hyL : layAll d.L (d.W ++ [(d.S.length / 2 - at_, headless im)]) = laid d.S (d.S.length / 2 - at_) (headless im) := by
    rw [h.w, h.l]
    rfl
  have hfr : d.left = -1 → lessOne d.left = -1 := lessOne_free
  unfold putD at hp
  split at hp
  · rename_i hlim
    injection hp with e1 e2
    subst e1
    subst e2
    refine ⟨rfl, rfl, by omega, by omega, by rw [h.w]; simp, fun hl => ⟨hl, by decide⟩, fun hl => absurd (show d.S.length / 2 - at_ + im.length ≤ d.lim by omega) hlim, .inr (.inl ⟨rfl, rfl⟩)⟩
  · split at hp
    · rename_i hst
      injection hp with e1 e2
      subst e1
      subst e2
      refine ⟨rfl, rfl, by omega, by omega, by rw [h.w]; simp, fun hl => by omega, fun _ => by decide, .inr (.inr ⟨rfl, fun keep torn => .inl ?_⟩)⟩
      rw [torn_calm h.w, h.l]
      exact h.holds
    · split at hp
      · rename_i _ hst
        injection hp with e1 e2
        subst e1
        subst e2
        have hst' : lessOne d.left = 0 := hst
        refine ⟨hl1, rfl, by simp [Dat.write], by simp [Dat.write], by simp [Dat.write, h.w], fun hl => by have := hfr hl; omega, fun _ => by decide, .inr (.inr ⟨rfl, fun keep torn => .inl ?_⟩)⟩
        obtain ⟨t, ht, he⟩ := torn_one (d := d.write (d.S.length / 2 - at_) (headless im)) (off := d.S.length / 2 - at_) (xs := headless im) (by simp [Dat.write, h.w]) keep torn
        rw [he]
        have : (d.write (d.S.length / 2 - at_) (headless im)).L = d.S := h.l
        rw [this]
        exact w1 t
      · split at hp
        · rename_i _ _ hst
          injection hp with e1 e2
          subst e1
          subst e2
          have hst' : lessOne (lessOne d.left) = 0 := hst
          refine ⟨hl1, rfl, by simp [Dat.write, Dat.sync]; omega, by simp [Dat.write, Dat.sync], by simp [Dat.sync], fun hl => by have := hfr hl; have := lessOne_free this; omega, fun _ => by decide, .inr (.inr ⟨rfl, fun keep torn => .inl ?_⟩)⟩
          rw [torn_calm (by rfl)]
          show Holds (layAll d.L (d.W ++ [(d.S.length / 2 - at_, headless im)])) at_ turn T
          rw [hyL]
          exact w1a
        · split at hp
          · rename_i _ _ _ hst
            injection hp with e1 e2
            subst e1
            subst e2
            have hst' : lessOne (lessOne (lessOne d.left)) = 0 := hst
            refine ⟨hl2, rfl, by simp [Dat.write, Dat.sync]; omega, by simp [Dat.write, Dat.sync], by simp [Dat.write, Dat.sync], fun hl => by have := lessOne_free (lessOne_free (hfr hl)); omega, fun _ => by decide, .inr (.inr ⟨rfl, fun keep torn => ?_⟩)⟩
            obtain ⟨t, ht, he⟩ := torn_one (d := (d.write (d.S.length / 2 - at_) (headless im)).sync.write (d.S.length / 2 - at_) (im.take 8)) (off := d.S.length / 2 - at_) (xs := im.take 8) (by simp [Dat.write, Dat.sync]) keep torn
            rw [he]
            have : ((d.write (d.S.length / 2 - at_) (headless im)).sync.write (d.S.length / 2 - at_) (im.take 8)).L = laid d.S (d.S.length / 2 - at_) (headless im) := hyL
            rw [this]
            by_cases ht8 : t < 8
            · exact .inl (w2 t ht8)
            · right
              rw [List.take_of_length_le (by omega)]
              exact w3
          · rename_i hlim hz1 hz2 hz3 hz4
            injection hp with e1 e2
            subst e1
            subst e2
            refine ⟨hl2, rfl, by simp [Dat.write, Dat.sync]; omega, by simp [Dat.write, Dat.sync], by simp [Dat.write, Dat.sync], fun hl => ⟨lessOne_free (lessOne_free (lessOne_free (hfr hl))), by decide⟩, fun _ => by decide, .inl ⟨rfl, rfl, ?_, w3, ?_⟩⟩
            · show layAll (layAll d.L (d.W ++ [(d.S.length / 2 - at_, headless im)])) ([] ++ [(d.S.length / 2 - at_, im.take 8)]) = _
              rw [hyL]
              rfl
            · show d.lim ≤ (laid (laid d.S (d.S.length / 2 - at_) (headless im)) (d.S.length / 2 - at_) (im.take 8)).length
              rw [hl2]
              exact h.lim

end Go.Proofs.YthgpjlmdllihmaaGreat
