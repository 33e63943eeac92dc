/- Texts of one proof, laid together: U37 U38. -/
import Derived.Test.YthgpjlmdllihmaaGreatM28
/- A store in memory, over Put, Crash and Open. -/
namespace Go.Proofs.YthgpjlmdllihmaaGreat
open Go.RowKit Go.Shelf Go.Maps
set_option linter.unusedVariables false
set_option linter.unusedSimpArgs false
set_option maxRecDepth 100000

/-- A store, its disk, its table. -/
structure StM (w : World) (s : St) (k : Dk) (T : Tab) : Prop where
  st : StAt w s
  dp : s.dp = k.p
  disk : DiskAt w k
  tab : TabV w s.m T
  np : s.p ∉ k.all
  nm : ∀ b, s.m = some b → b ∉ k.all ∧ b ≠ s.p
  good : Good T

/-- The blocks that a store's own calls may turn. -/
def St.own (s : St) (k : Dk) : List Nat := s.p :: k.fp

theorem StM.keep {w w' : World} {s : St} {k : Dk} {T : Tab} {bs : List Nat} (h : StM w s k T) (hk : Keeps bs w w') (h1 : s.p ∉ bs) (h2 : ∀ b ∈ k.all, b ∉ bs) (h3 : ∀ b, s.m = some b → b ∉ bs) : StM w' s k T :=
  ⟨h.st.keep hk h1, h.dp, h.disk.keep hk h2, h.tab.keep hk h3, h.np, h.nm, h.good⟩
theorem StM.grow {w w' : World} {s : St} {k : Dk} {T : Tab} (h : StM w s k T) (hk : Keeps [] w w') : StM w' s k T := h.keep hk (by simp) (by simp) (by simp)
theorem StM.mlt {w : World} {s : St} {k : Dk} {T : Tab} (h : StM w s k T) {b : Nat} (hb : s.m = some b) : b < w.heap.size := by
  have := h.tab
  rw [hb] at this
  exact this.lt

/-- A store as numbers and bytes. -/
structure PS where
  d : Dat
  at_ : Nat
  turn : Nat
  T : Tab
/-- What a Put answers, and makes of it, where it is not broken. -/
def PS.put (p : PS) (l : List Chg) : Int × PS :=
  if putN p.T l false (p.d.S.length / 2) ≠ 0 then (putN p.T l false (p.d.S.length / 2), p)
  else if (putD p.d (p.d.S.length / 2 - p.at_) (image ((p.turn + 1) % 4294967296) (behindT p.T l))).1 = 0 then
    (0, ⟨(putD p.d (p.d.S.length / 2 - p.at_) (image ((p.turn + 1) % 4294967296) (behindT p.T l))).2, p.d.S.length / 2 - p.at_, (p.turn + 1) % 4294967296, behindT p.T l⟩)
  else ((putD p.d (p.d.S.length / 2 - p.at_) (image ((p.turn + 1) % 4294967296) (behindT p.T l))).1, ⟨(putD p.d (p.d.S.length / 2 - p.at_) (image ((p.turn + 1) % 4294967296) (behindT p.T l))).2, p.at_, p.turn, p.T⟩)
theorem PS.put_refused {d : Dat} {at_ turn : Nat} {T : Tab} {l : List Chg} {half : Nat} {N : Int} (hh : half = d.S.length / 2) (hN : N = putN T l false half) (h0 : N ≠ 0) : PS.put ⟨d, at_, turn, T⟩ l = (N, ⟨d, at_, turn, T⟩) := by
  subst hh
  subst hN
  unfold PS.put
  rw [if_pos h0]
theorem PS.put_done {d d' : Dat} {at_ turn : Nat} {T : Tab} {l : List Chg} {half : Nat} {n : Int} (hh : half = d.S.length / 2) (hN : putN T l false half = 0) (hp : putD d (half - at_) (image ((turn + 1) % 4294967296) (behindT T l)) = (n, d')) :
    PS.put ⟨d, at_, turn, T⟩ l = (n, if n = 0 then ⟨d', half - at_, (turn + 1) % 4294967296, behindT T l⟩ else ⟨d', at_, turn, T⟩) := by
  subst hh
  unfold PS.put
  rw [if_neg (by simpa using hN), hp]
  by_cases h : n = 0
  · subst h; simp
  · simp [h]

/-- What a Put has done to a store that was not broken. -/
structure Put (w : World) (s : St) (k : Dk) (T : Tab) (l : List Chg) (n : Int) (s' : St) (k' : Dk) (T' : Tab) (w' : World) : Prop where
  st : StM w' s' k' T'
  p : s'.p = s.p
  kp : k'.p = k.p
  fp : ∀ b ∈ k'.fp, b ∈ k.fp ∨ w.heap.size ≤ b
  all : ∀ b ∈ k'.all, b ∈ k.all ∨ w.heap.size ≤ b
  m : ∀ b, s'.m = some b → s.m = some b ∨ w.heap.size ≤ b
  len : k'.S.length = k.S.length
  lim : k'.lim = k.lim
  done : k.done ≤ k'.done ∧ k'.done ≤ k.done + 4
  free : k.left = -1 → k'.left = -1 ∧ n ≠ 111
  full : k.lim = k.S.length → n ≠ 110
  wl : k'.W.length ≤ 1
  keeps : Keeps (s.p :: k.fp) w w'
  ps : PS.put ⟨k.dat, s.at_, s.turn, T⟩ l = (n, ⟨k'.dat, s'.at_, s'.turn, T'⟩)
  what : n ≠ 0 ∧ n ≠ 111 ∧ (n = 110 ∧ putN T l false (k.S.length / 2) = 0 ∨ n ≠ 110 ∧ n = putN T l false (k.S.length / 2)) ∧ s' = s ∧ k'.dat = k.dat ∧ T' = T
    ∨ putN T l false (k.S.length / 2) = 0 ∧ n = 0 ∧ s'.br = false ∧ Calm k'.dat s'.at_ s'.turn T' ∧ T' = behindT T l
    ∨ putN T l false (k.S.length / 2) = 0 ∧ n = 111 ∧ s'.br = true ∧ T' = T ∧ Torn k'.dat s.at_ s.turn T (k.S.length / 2 - s.at_) ((s.turn + 1) % 4294967296) (behindT T l) ∧ Good (behindT T l)

theorem tweight_chg (T : Tab) (x : Chg) : tweight (chgT T x) ≤ tweight T + (16 + (x.k.length + x.v.length)) := by
  unfold chgT
  split
  · have := tweight_tdel T x.k
    omega
  · have := tweight_tput T x.k x.v
    omega

theorem tweight_good {T : Tab} (h : Good T) : tweight T ≤ 8408 * T.length := by
  have : ∀ T : Tab, (∀ p ∈ T, 1 ≤ p.1.length ∧ p.1.length ≤ 200 ∧ p.2.length ≤ 8192) → tweight T ≤ 8408 * T.length := by
    intro T
    induction T with
    | nil => intro _; simp [tweight]
    | cons p r ih =>
      intro hk
      have h1 := ih (fun q hq => hk q (List.mem_cons_of_mem _ hq))
      have h2 := hk p (by simp)
      rw [tweight_cons, List.length_cons]
      omega
  exact this T h.key

theorem sput_any {w : World} {s : St} {k : Dk} {T : Tab} (A : Option Addr) (len c : Nat) (l : List Chg) (h : StM w s k T) (hc : Calm k.dat s.at_ s.turn T) (hbr : s.br = false) (hm : len ≤ 9223372036854775807) (hl : ChgsAt w A len l) (hdn : k.done ≤ 4000000000000000000) :
    Calls Tryz.prog 9 #[.pointer (some ⟨s.p, 0, none⟩), .slice A len c] w fun e w' => ∃ n s' k' T', e = .returned (.int .i64 n) ∧ Put w s k T l n s' k' T' w' := by
  have hT : T.length ≤ 10000 := by have := h.good.few; omega
  have hat : s.at_ ≤ k.S.length / 2 := by
    rcases hc.holds.half with h0 | h0
    · omega
    · have : k.dat.S.length = k.S.length := rfl
      omega
  have hwl : k.W.length = 0 := by
    have := hc.w
    have h2 : k.dat.W.length = k.W.length := by simp [Dk.dat]
    rw [this] at h2
    exact h2.symm
  have still : ∀ {n : Int} {w' : World}, n ≠ 0 → n ≠ 111 → n ≠ 110 → n = putN T l false (k.S.length / 2) → Keeps [] w w' → Put w s k T l n s k T w' := fun h0 h1 h2 hn hk =>
    ⟨h.grow hk, rfl, rfl, fun b hb => .inl hb, fun b hb => .inl hb, fun b hb => .inl hb, rfl, rfl, ⟨Nat.le_refl _, by omega⟩, fun hf => ⟨hf, h1⟩, fun _ => h2, by omega, hk.mono (by simp), PS.put_refused (half := k.S.length / 2) rfl hn h0, .inl ⟨h0, h1, .inr ⟨h2, hn⟩, rfl, rfl, rfl⟩⟩
  cases hok : chgsOk l
  · refine (put_arg A len c l h.st hm hl hok).mono ?_
    rintro e w' ⟨rfl, hk⟩
    exact ⟨2, s, k, T, rfl, still (by decide) (by decide) (by decide) (by unfold putN; rw [if_pos hok]) hk⟩
  · have hok' : ¬ chgsOk l = false := by rw [hok]; decide
    by_cases h2 : 200 < (behindT T l).length
    · refine (put_long A len c l h.st h.tab hT hm hl hok h2).mono ?_
      rintro e w' ⟨rfl, hk⟩
      exact ⟨3, s, k, T, rfl, still (by decide) (by decide) (by decide) (by unfold putN; rw [if_neg hok', if_pos h2]) hk⟩
    · by_cases hro : tweight (behindT T l) + 64 ≤ k.S.length / 2
      · have hN : putN T l false (k.S.length / 2) = 0 := by unfold putN; rw [if_neg hok', if_neg h2, if_neg (by decide), if_pos hro]
        refine (put_done A len c l h.st h.disk h.dp h.np h.tab hm hl hok h2 hbr hro h.good hat hc.holds.turnlt (by omega) hdn).mono ?_
        rintro e w' ⟨n, k', b, rfl, hla, hb, hbs, hbk⟩
        have hg := good_behind h.good hok (MapAt.rising hb) (by omega)
        obtain ⟨f1, f2, f3, f4, f5, f6, f7, f8⟩ := putD_is hc hg hro hla.put
        have hw5 : k'.W.length ≤ 1 := by simpa [Dk.dat] using f5
        have hnp : s.p ∉ k'.all := fun hx => by
          rcases hla.all _ hx with hx | hx
          · exact h.np hx
          · have := h.st.lt; omega
        have hkk : ∀ b ∈ k.all, b ∈ s.p :: k.fp → b ∈ k.fp := fun b hb hx => by
          rcases List.mem_cons.1 hx with hx | hx
          · exact absurd (hx ▸ hb) h.np
          · exact hx
        have htab : TabV w' s.m T := h.tab.keep hla.keeps (fun b hb hx => by
          obtain ⟨q1, q2⟩ := h.nm b hb
          rcases List.mem_cons.1 hx with hx | hx
          · exact q2 hx
          · exact q1 (fp_sub hx))
        have hnm : ∀ b, s.m = some b → b ∉ k'.all ∧ b ≠ s.p := fun b hb => ⟨fun hx => by
          rcases hla.all b hx with hx | hx
          · exact (h.nm b hb).1 hx
          · have := h.mlt hb; omega, (h.nm b hb).2⟩
        have hsp := h.st.lt
        rcases f8 with ⟨rfl, hcalm⟩ | ⟨rfl, hsame⟩ | ⟨rfl, htorn⟩
        · have es : s.behind 0 (k.S.length / 2) (some b) = ⟨s.p, k.S.length / 2 - s.at_, (s.turn + 1) % 4294967296, some b, s.dp, s.br⟩ := rfl
          have hst := hla.st
          rw [es] at hst
          refine ⟨0, _, k', behindT T l, rfl, ⟨⟨hst, h.dp.trans hla.p.symm, hla.disk, hb, hnp, ?_, hg⟩, rfl, hla.p, hla.fp, hla.all, ?_, f1, f2, ⟨f3, f4⟩, f6, f7, hw5, hla.keeps, PS.put_done (half := k.S.length / 2) rfl hN hla.put, .inr (.inl ⟨hN, rfl, hbr, hcalm, rfl⟩)⟩⟩
          · intro b' hb'
            injection hb' with hb'
            subst hb'
            exact ⟨hbk, by show _ ≠ s.p; omega⟩
          · intro b' hb'
            injection hb' with hb'
            subst hb'
            exact .inr hbs
        · have es : s.behind 110 (k.S.length / 2) (some b) = s := rfl
          have hst := hla.st
          rw [es] at hst
          exact ⟨110, s, k', T, rfl, ⟨⟨hst, h.dp.trans hla.p.symm, hla.disk, htab, hnp, hnm, h.good⟩, rfl, hla.p, hla.fp, hla.all, fun b hb => .inl hb, f1, f2, ⟨f3, f4⟩, f6, f7, hw5, hla.keeps, PS.put_done (half := k.S.length / 2) rfl hN hla.put, .inl ⟨by decide, by decide, .inl ⟨rfl, hN⟩, rfl, hsame, rfl⟩⟩⟩
        · have es : s.behind 111 (k.S.length / 2) (some b) = ⟨s.p, s.at_, s.turn, s.m, s.dp, true⟩ := rfl
          have hst := hla.st
          rw [es] at hst
          exact ⟨111, _, k', T, rfl, ⟨⟨hst, h.dp.trans hla.p.symm, hla.disk, htab, hnp, hnm, h.good⟩, rfl, hla.p, hla.fp, hla.all, fun b hb => .inl hb, f1, f2, ⟨f3, f4⟩, f6, f7, hw5, hla.keeps, PS.put_done (half := k.S.length / 2) rfl hN hla.put, .inr (.inr ⟨hN, rfl, rfl, rfl, htorn, hg⟩)⟩⟩
      · refine (put_room A len c l h.st h.disk h.dp h.tab hT hm hl hok h2 hbr ?_ hro).mono ?_
        · have : ∀ (l : List Chg) (T : Tab), tweight (behindT T l) ≤ tweight T + (16 * l.length + csize l) := by
            intro l
            induction l with
            | nil => intro T; simp [behindT, csize]
            | cons x r ih =>
              intro T
              have h1 := ih (chgT T x)
              have h3 : tweight (chgT T x) ≤ tweight T + (16 + (x.k.length + x.v.length)) := tweight_chg T x
              have h4 : csize (x :: r) = x.k.length + x.v.length + csize r := by simp [csize]
              show tweight (behindT (chgT T x) r) ≤ _
              rw [h4, List.length_cons]
              omega
          have h1 := this l T
          have h3 := csize_le (l := l) (by unfold chgsOk at hok; simp only [Bool.and_eq_true] at hok; exact hok.2.1)
          have h4 := chgsOk_few hok
          have h5 := tweight_good h.good
          have h6 := h.good.few
          omega
        · rintro e w' ⟨rfl, hk⟩
          exact ⟨141, s, k, T, rfl, still (by decide) (by decide) (by decide) (by unfold putN; rw [if_neg hok', if_neg h2, if_neg (by decide), if_neg hro]) hk⟩

/-- Put of a broken store changes nothing. -/
theorem sput_broken {w : World} {s : St} {k : Dk} {T : Tab} (A : Option Addr) (len c : Nat) (l : List Chg) (h : StM w s k T) (hbr : s.br = true) (hm : len ≤ 9223372036854775807) (hl : ChgsAt w A len l) (half : Nat) :
    Calls Tryz.prog 9 #[.pointer (some ⟨s.p, 0, none⟩), .slice A len c] w fun e w' => e = .returned (.int .i64 (putN T l true half)) ∧ putN T l true half ≠ 0 ∧ Keeps [] w w' := by
  have hT : T.length ≤ 10000 := by have := h.good.few; omega
  cases hok : chgsOk l
  · refine (put_arg A len c l h.st hm hl hok).mono ?_
    rintro e w' ⟨rfl, hk⟩
    unfold putN
    rw [if_pos hok]
    exact ⟨rfl, by decide, hk⟩
  · have hok' : ¬ chgsOk l = false := by rw [hok]; decide
    by_cases h2 : 200 < (behindT T l).length
    · refine (put_long A len c l h.st h.tab hT hm hl hok h2).mono ?_
      rintro e w' ⟨rfl, hk⟩
      unfold putN
      rw [if_neg hok', if_pos h2]
      exact ⟨rfl, by decide, hk⟩
    · refine (put_broken A len c l h.st h.tab hT hm hl hok h2 hbr).mono ?_
      rintro e w' ⟨rfl, hk⟩
      unfold putN
      rw [if_neg hok', if_neg h2, if_pos rfl]
      exact ⟨rfl, by decide, hk⟩

/-- Open on a disk where a table counts. -/
theorem open_any (k : Dk) (w : World) (hd : DiskAt w k) {at_ turn : Nat} {T : Tab} (hh : Holds k.S at_ turn T) :
    Calls Tryz.prog 8 #[.pointer (some ⟨k.p, 0, none⟩)] w fun e w' => ∃ p m, e = .returned (.tuple #[.pointer (some ⟨p, 0, none⟩), .int .i64 0]) ∧ StM w' ⟨p, at_, turn, m, k.p, false⟩ k T ∧ (∀ b, m = some b → w.heap.size ≤ b) ∧ w.heap.size ≤ p ∧ Keeps [] w w' := by
  have hlt := hd.lt
  refine (open_ok k w hd hh.big).mono ?_
  rintro e w' ⟨p, m, rfl, hst, htab, hm, hp, hk⟩
  rw [hh.a, hh.t] at hst
  rw [hh.tab] at htab
  refine ⟨p, m, rfl, ⟨hst, rfl, hd.grow hk, htab, fun hx => ?_, fun b hb => ⟨fun hx => ?_, ?_⟩, hh.good⟩, fun b hb => (hm b hb).1, hp, hk⟩
  · have := hlt p hx; omega
  · have := hlt b hx; have := (hm b hb).1; omega
  · have := (hm b hb).2
    show b ≠ p
    omega

/-- Noughts alone have no table. -/
theorem holds_new {n : Nat} (h : 256 ≤ n) : Holds (List.replicate n 0) (n / 2) 0 [] := by
  have ha : ∀ at_, areaP (n / 2) (arX (List.replicate n 0) at_) = Option.none := fun at_ => area_head0 (by
    unfold arX
    rw [List.getElem?_take]
    split
    · rw [List.getElem?_drop, List.getElem?_replicate]
      split <;> decide
    · simp)
  have hl : (List.replicate n (0 : UInt8)).length = n := List.length_replicate
  have hf : inFirst (List.replicate n 0) = false := by
    unfold inFirst arIs
    rw [hl, ha]
    rfl
  refine ⟨by rw [hl]; exact h, ?_, ?_, ?_, ⟨by simp [Rising], by simp, by simp⟩, by rw [hl]; simp [tweight]; omega⟩
  · unfold latAt
    rw [hf, hl]
    rfl
  · unfold latT arT
    rw [hl, ha]
  · unfold latTab arTab
    rw [hl, ha]

end Go.Proofs.YthgpjlmdllihmaaGreat
/- A crash where nothing waits; the statements' own example of a store. -/
namespace Go.Proofs.YthgpjlmdllihmaaGreat
open Go.RowKit Go.Shelf Go.Maps
set_option linter.unusedVariables false
set_option linter.unusedSimpArgs false
set_option maxRecDepth 100000

theorem Calm.crash {d : Dat} {at_ turn : Nat} {T : Tab} (h : Calm d at_ turn T) (keep torn : Int) : Calm (d.crash keep torn) at_ turn T := by
  have e : tornOf d keep torn = d.S := by rw [torn_calm h.w, h.l]
  exact ⟨rfl, rfl, by show Holds (tornOf d keep torn) at_ turn T; rw [e]; exact h.holds, by show d.lim ≤ (tornOf d keep torn).length; rw [e]; exact h.lim⟩

theorem calm_new {k : Dk} {n : Nat} (hn : 256 ≤ n) (h1 : k.S = List.replicate n 0) (h2 : k.L = List.replicate n 0) (h3 : k.W = []) (h4 : k.lim = n) : Calm k.dat (n / 2) 0 [] := by
  refine ⟨by simp [Dk.dat, h3], by simp [Dk.dat, h1, h2], ?_, ?_⟩
  · show Holds k.S (n / 2) 0 []
    rw [h1]
    exact holds_new hn
  · show k.lim ≤ k.S.length
    rw [h1, h4, List.length_replicate]
    omega

/-- One change in a row of its own. -/
theorem chg_one (w : World) (x : Chg) (h1 : x.k.length ≤ 9223372036854775807) (h2 : x.v.length ≤ 9223372036854775807) : ChgsAt (w.alloc (.cells #[sv x.k, sv x.v, .bool x.g] 50)) (some ⟨w.heap.size, 0, none⟩) 1 [x] := by
  refine ⟨rfl, fun i y hy => ?_⟩
  match i, hy with
  | 0, hy =>
    injection hy with hy
    subst hy
    refine ⟨w.heap.size, 0, rfl, ?_, ?_, ?_, h1, h2⟩
    · rw [World.cell?_alloc_new]; rfl
    · rw [World.cell?_alloc_new]; rfl
    · rw [World.cell?_alloc_new]; rfl

/-- A Put where the disk refuses nothing. -/
theorem Put.free_is {w w' : World} {s s' : St} {k k' : Dk} {T T' : Tab} {l : List Chg} {n : Int} (h : Put w s k T l n s' k' T' w') (hl : k.left = -1) (hf : k.lim = k.S.length) :
    n = putN T l false (k.S.length / 2) ∧ k'.left = -1 ∧ k'.lim = k'.S.length ∧ (n ≠ 0 ∧ s' = s ∧ k'.dat = k.dat ∧ T' = T ∨ n = 0 ∧ s'.br = false ∧ Calm k'.dat s'.at_ s'.turn T' ∧ T' = behindT T l) := by
  obtain ⟨f1, f2⟩ := h.free hl
  have f3 := h.full hf
  have f4 : k'.lim = k'.S.length := by rw [h.lim, h.len]; exact hf
  rcases h.what with ⟨a1, a2, a3, a4, a5, a6⟩ | ⟨a1, a2, a3, a4, a5⟩ | ⟨_, a1, _⟩
  · rcases a3 with ⟨a3, _⟩ | ⟨_, a3⟩
    · exact absurd a3 f3
    · exact ⟨a3, f1, f4, .inl ⟨a1, a4, a5, a6⟩⟩
  · exact ⟨by rw [a1, a2], f1, f4, .inr ⟨a2, a3, a4, a5⟩⟩
  · exact absurd a1 f2

theorem w18 : tweight [(([99] : List UInt8), ([120] : List UInt8))] = 18 := by rfl
theorem putcx : putN [] [⟨[99], [120], false⟩] false 500 = 0 := by decide +kernel
theorem behindcx : behindT [] [⟨[99], [120], false⟩] = [([99], [120])] := by rfl
theorem getcx : tval [([99], [120])] [99] = [120] ∧ thas [([99], [120])] [99] = true := by decide +kernel

set_option maxHeartbeats 1000000 in
theorem known4_any (w : World) : Calls Tryz.prog 6 #[] w fun e w' => e = .returned (.bool true) ∧ Keeps [] w w' := by
  go_enter Tryz.func6, Tryz.ntmps6
  go_wp2_with fail
  refine (new_yes 1000 w (by omega) (by omega)).mono ?_
  rintro e w1 ⟨k, rfl, hd, h1, h2, h3, h4, h5, h6, h7, h8⟩
  have HD := Lib.hid hd
  have HC := Lib.hid (calm_new (n := 1000) (by omega) h1 h2 h3 h4)
  have hlen : k.S.length = 1000 := by rw [h1, List.length_replicate]
  have HO := Lib.hid (open_any k w1 hd HC.out.holds)
  have HN := Lib.hid h7
  have HK1 := Lib.hid h8
  clear hd h1 h2 h3 h7 h8
  go_wp2_with fail
  refine HO.out.mono ?_
  rintro e w2 ⟨p, m, rfl, hs, hm, hp, hk⟩
  have HK2 := Lib.hid (HK1.out.trans' hk)
  have hsz1 := HK1.out.size
  have HP := Lib.hid (sput_any (some ⟨w2.heap.size, 0, none⟩) 1 1 [⟨[99], [120], false⟩] (hs.grow ((Keeps.refl [] w2).alloc (.cells #[sv [99], sv [120], .bool false] 50))) HC.out rfl (by decide) (chg_one w2 ⟨[99], [120], false⟩ (by decide) (by decide)) (by omega))
  have HK2a := Lib.hid (HK2.out.alloc (.cells #[sv [99], sv [120], .bool false] 50))
  clear hs hk HO
  go_wp2_with fail
  refine HP.out.mono ?_
  rintro e w3 ⟨n, s', k', T', rfl, hpu⟩
  obtain ⟨p1, p2, p3, p4⟩ := hpu.free_is h5 (by rw [hlen]; exact h4)
  rw [hlen, putcx] at p1
  subst p1
  obtain ⟨q1, q2, q3⟩ : s'.br = false ∧ Calm k'.dat s'.at_ s'.turn T' ∧ T' = [([99], [120])] := by
    rcases p4 with ⟨h, _⟩ | ⟨_, h1, h2, h3⟩
    · exact absurd rfl h
    · exact ⟨h1, h2, h3.trans behindcx⟩
  have hkp := hpu.kp
  have HK3 := Lib.hid (HK2a.out.trans hpu.keeps (fun x hx => by
    right
    rcases List.mem_cons.1 hx with hx | hx
    · rw [hx]; show w.heap.size ≤ p; omega
    · exact HN.out x (fp_sub hx)))
  have hdone := hpu.done
  have HCR := Lib.hid (crash_dat k' k'.dat 0 0 w3 hpu.st.disk rfl (by decide) (by decide) (by rw [q2.w]; simp))
  rw [hkp] at HCR
  have HC2 := Lib.hid (q2.crash 0 0)
  clear hpu p4 q2 HP
  go_wp2_with fail
  refine HCR.out.mono ?_
  rintro e w4 ⟨k2, rfl, hd2, e2, hn2, hk⟩
  have HK4 := Lib.hid (HK3.out.trans' hk)
  rw [← e2] at HC2
  have HO2 := Lib.hid (open_any k2 w4 hd2 HC2.out.holds)
  clear hd2 hk HCR
  go_wp2_with fail
  refine HO2.out.mono ?_
  rintro e w5 ⟨p5, m5, rfl, hs5, hm5, hp5, hk⟩
  have HK5 := Lib.hid (HK4.out.trans' hk)
  have HG := Lib.hid (get_ok (T := T') [99] hs5.st hs5.tab (by decide))
  have HS5 := Lib.hid hs5
  rw [q3, getcx.1, getcx.2] at HG
  clear hs5 hk HO2
  go_wp2_with fail
  refine HG.out.mono ?_
  rintro e w6 ⟨rfl, hk⟩
  have HK6 := Lib.hid (HK5.out.trans' hk)
  have HW := Lib.hid (weight_ok (HS5.out.grow hk).st (HS5.out.grow hk).tab (by rw [q3]; decide))
  rw [q3, w18] at HW
  clear hk HG
  go_wp2_with fail
  refine HW.out.mono ?_
  rintro e w7 ⟨rfl, hk⟩
  have HK7 := Lib.hid (HK6.out.trans' hk)
  clear hk
  go_wp2_with fail
  go_ret
  exact ⟨rfl, HK7.out⟩

end Go.Proofs.YthgpjlmdllihmaaGreat
