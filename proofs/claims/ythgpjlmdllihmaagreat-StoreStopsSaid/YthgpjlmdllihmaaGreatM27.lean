/- Texts of one proof, laid together: U33 U34. -/
import Derived.Test.YthgpjlmdllihmaaGreatM26
import Derived.Deep.RegionHeldLaw
import Derived.Deep.RegionHeld3
/- The four steps, done one behind the other on a disk. -/
namespace Go.Proofs.YthgpjlmdllihmaaGreat
open Go.RowKit Go.Shelf Go.Maps
set_option linter.unusedVariables false
set_option linter.unusedSimpArgs false
set_option maxRecDepth 100000

theorem four_is (k : Dk) (f bd ba bi bh gi ci gh ch at_ : Nat) (im : List UInt8) (w : World) (hd : DiskAt w k)
    (hs : StepsAt w f #[.pointer (some ⟨bd, 0, none⟩), .pointer (some ⟨ba, 0, none⟩), .pointer (some ⟨bh, 0, none⟩)] #[.pointer (some ⟨bd, 0, none⟩)] #[.pointer (some ⟨bd, 0, none⟩), .pointer (some ⟨ba, 0, none⟩), .pointer (some ⟨bi, 0, none⟩)] #[.pointer (some ⟨bd, 0, none⟩)])
    (c1 : w.cell? ⟨bd, 0, none⟩ = some (.pointer (some ⟨k.p, 0, none⟩))) (c2 : w.cell? ⟨ba, 0, none⟩ = some (.int .i64 (at_ : Int))) (c3 : w.cell? ⟨bi, 0, none⟩ = some (.slice (some ⟨gi, 0, none⟩) im.length ci)) (c4 : w.cell? ⟨bh, 0, none⟩ = some (.slice (some ⟨gh, 0, none⟩) im.length ch))
    (b1 : BytesAt w (.slice (some ⟨gi, 0, none⟩) im.length ci) im) (b2 : BytesAt w (.slice (some ⟨gh, 0, none⟩) im.length ch) (headless im))
    (hf : f ∉ k.fp) (hbd : bd ∉ k.fp) (hba : ba ∉ k.fp) (hbi : bi ∉ k.fp) (hbh : bh ∉ k.fp) (hgi : gi ∉ k.fp) (hgh : gh ∉ k.fp)
    (h8 : 8 ≤ im.length) (hfit : at_ + im.length ≤ k.S.length) (hW : k.W.length ≤ 900000) (hdn : k.done ≤ 4000000000000000000) :
    Calls Tryz.prog 45 #[.slice (some ⟨f, 0, none⟩) 4 4] w fun e w' => ∃ n k', e = .returned (.int .i64 n) ∧ Goes w k w' k' ∧ putD k.dat at_ im = (n, k'.dat) := by
  have hhl := headless_len h8
  have h88 : (im.take 8).length = 8 := by rw [List.length_take]; omega
  obtain ⟨d1, hd1⟩ : ∃ d1, k.dat.write at_ (headless im) = d1 := ⟨_, rfl⟩
  obtain ⟨d2, hd2⟩ : ∃ d2, d1.sync = d2 := ⟨_, rfl⟩
  obtain ⟨d3, hd3⟩ : ∃ d3, d2.write at_ (im.take 8) = d3 := ⟨_, rfl⟩
  obtain ⟨d4, hd4⟩ : ∃ d4, d3.sync = d4 := ⟨_, rfl⟩
  have e1 : d1.S.length = k.S.length := by rw [← hd1]; exact length_laid (by rw [hhl]; exact hfit)
  have e2 : d2.S.length = k.S.length := by rw [← hd2]; exact e1
  have e3 : d3.S.length = k.S.length := by rw [← hd3]; exact (length_laid (by rw [e2, h88]; omega)).trans e2
  have l0 : k.dat.lim = k.lim := rfl
  have l1 : d1.lim = k.lim := by rw [← hd1]; rfl
  have l2 : d2.lim = k.lim := by rw [← hd2]; exact l1
  have w0 : k.dat.W.length = k.W.length := by simp [Dk.dat]
  have w1 : d1.W.length = k.W.length + 1 := by rw [← hd1]; simp [Dat.write, Dk.dat]
  have w2 : d2.W.length = 0 := by rw [← hd2]; rfl
  have w3 : d3.W.length = 1 := by
    rw [← hd3]
    show (d2.W ++ _).length = 1
    rw [List.length_append, w2]
    rfl
  have n0 : k.dat.done = k.done := rfl
  have n1 : d1.done = k.done + 1 := by rw [← hd1]; rfl
  have n2 : d2.done = k.done + 1 + 1 := by rw [← hd2]; exact congrArg (· + 1) n1
  have n3 : d3.done = k.done + 1 + 1 + 1 := by rw [← hd3]; exact congrArg (· + 1) n2
  have keepb : ∀ {W : World} {k' : Dk}, Goes w k W k' → Keeps k.fp w W := fun g => g.keeps
  have kc : ∀ {W : World} {k' : Dk} {b i : Nat} {v : Value}, Goes w k W k' → b ∉ k.fp → w.cell? ⟨b, i, none⟩ = some v → W.cell? ⟨b, i, none⟩ = some v := fun g hb hc => (g.keeps.cell (lt_of_cell hc) hb).trans hc
  have ks : ∀ {W : World} {k' : Dk}, Goes w k W k' → StepsAt W f #[.pointer (some ⟨bd, 0, none⟩), .pointer (some ⟨ba, 0, none⟩), .pointer (some ⟨bh, 0, none⟩)] #[.pointer (some ⟨bd, 0, none⟩)] #[.pointer (some ⟨bd, 0, none⟩), .pointer (some ⟨ba, 0, none⟩), .pointer (some ⟨bi, 0, none⟩)] #[.pointer (some ⟨bd, 0, none⟩)] := fun g => ⟨kc g hf hs.1, kc g hf hs.2.1, kc g hf hs.2.2.1, kc g hf hs.2.2.2⟩
  have kp : ∀ {W : World} {k' : Dk}, Goes w k W k' → k'.p = k.p := fun g => g.p
  have hb1 : ∀ {W : World} {k' : Dk}, Goes w k W k' → BytesAt W (.slice (some ⟨gi, 0, none⟩) im.length ci) im := fun g => b1.keep g.keeps (fun b hb => by simp [Value.ownBlock] at hb; rw [← hb]; exact hgi)
  have hb2 : ∀ {W : World} {k' : Dk}, Goes w k W k' → BytesAt W (.slice (some ⟨gh, 0, none⟩) im.length ch) (headless im) := fun g => b2.keep g.keeps (fun b hb => by simp [Value.ownBlock] at hb; rw [← hb]; exact hgh)
  have main := refusal_is
    (P0 := fun W => ∃ k', Goes w k W k' ∧ k'.dat = k.dat)
    (P1 := fun W => (at_ + im.length ≤ k.lim ∧ k.dat.left ≠ 0) ∧ ∃ k', Goes w k W k' ∧ k'.dat = d1)
    (P2 := fun W => (at_ + im.length ≤ k.lim ∧ k.dat.left ≠ 0 ∧ d1.left ≠ 0) ∧ ∃ k', Goes w k W k' ∧ k'.dat = d2)
    (P3 := fun W => (at_ + im.length ≤ k.lim ∧ k.dat.left ≠ 0 ∧ d1.left ≠ 0 ∧ d2.left ≠ 0) ∧ ∃ k', Goes w k W k' ∧ k'.dat = d3)
    (P4 := fun W => (at_ + im.length ≤ k.lim ∧ k.dat.left ≠ 0 ∧ d1.left ≠ 0 ∧ d2.left ≠ 0 ∧ d3.left ≠ 0) ∧ ∃ k', Goes w k W k' ∧ k'.dat = d4)
    (Q := fun n W => ∃ k', Goes w k W k' ∧ putD k.dat at_ im = (n, k'.dat))
    f _ _ _ _ w
    (fun W ⟨_, g, _⟩ => ks g) (fun W ⟨_, _, g, _⟩ => ks g) (fun W ⟨_, _, g, _⟩ => ks g) (fun W ⟨_, _, g, _⟩ => ks g)
    (fun W ⟨k0, g, hk0⟩ => step1_of bd ba bh _ _ _ _ _ W (kc g hbd c1) (kc g hba c2) (kc g hbh c4) (by
      have hkp := g.p
      rw [← hkp]
      by_cases hl : at_ + im.length ≤ k.lim
      · by_cases hst : k.dat.left = 0
        · refine (write_stop k0 at_ _ im.length ch W g.disk (by rw [dat_S hk0]; exact hfit) (.inr (by rw [dat_lim hk0]; exact hl)) (by rw [dat_left hk0]; exact hst)).mono ?_
          rintro e W' ⟨rfl, rfl⟩
          refine ⟨111, rfl, .inr ⟨by decide, k0, g, ?_⟩⟩
          unfold putD
          rw [if_neg (by rw [l0]; omega), if_pos hst, hk0]
        · refine (write_dat k0 k.dat at_ _ im.length ch (headless im) W g.disk hk0 hhl (hb2 g) hfit hl hst (by rw [w0]; omega) (by rw [n0]; omega)).mono ?_
          rintro e W' ⟨rfl, k1, g1, hk1⟩
          exact ⟨0, rfl, .inl ⟨rfl, ⟨hl, hst⟩, k1, g.next g1, hk1.trans hd1⟩⟩
      · refine (write_full k0 at_ _ im.length ch W g.disk (by rw [dat_S hk0]; exact hfit) (by omega) (by rw [dat_lim hk0]; exact hl)).mono ?_
        rintro e W' ⟨rfl, rfl⟩
        refine ⟨110, rfl, .inr ⟨by decide, k0, g, ?_⟩⟩
        unfold putD
        rw [if_pos (by rw [l0]; omega), hk0]))
    (fun W ⟨⟨hl, hst⟩, k0, g, hk0⟩ => step2_of bd _ W (kc g hbd c1) ⟨_, rfl⟩ (by
      have hkp := g.p
      rw [← hkp]
      by_cases hst1 : d1.left = 0
      · refine (sync_stop k0 W g.disk (by rw [dat_left hk0]; exact hst1)).mono ?_
        rintro e W' ⟨rfl, hk⟩
        refine ⟨111, rfl, .inr ⟨by decide, k0, g.next (Goes.calm g.disk hk), ?_⟩⟩
        unfold putD
        rw [if_neg (by rw [l0]; omega), if_neg hst, hd1, if_pos hst1, hk0]
      · refine (sync_dat k0 d1 W g.disk hk0 hst1 (by rw [w1]; omega) (by rw [n1]; omega)).mono ?_
        rintro e W' ⟨rfl, k1, g1, hk1⟩
        exact ⟨0, rfl, .inl ⟨rfl, ⟨hl, hst, hst1⟩, k1, g.next g1, hk1.trans hd2⟩⟩))
    (fun W ⟨⟨hl, hst, hst1⟩, k0, g, hk0⟩ => step3_of bd ba bi gi im.length ci _ _ W h8 (cap_of_bytes (hb1 g)).1 (cap_of_bytes (hb1 g)).2.1 (kc g hbd c1) (kc g hba c2) (kc g hbi c3) (by
      have hkp := g.p
      rw [← hkp]
      have gd : Goes w k W.drew k0 := g.next (Goes.calm g.disk (Keeps.refl [] W).drew)
      by_cases hst2 : d2.left = 0
      · refine (write_stop k0 at_ _ 8 ci W.drew gd.disk (by rw [dat_S hk0, e2]; omega) (.inr (by rw [dat_lim hk0, l2]; omega)) (by rw [dat_left hk0]; exact hst2)).mono ?_
        rintro e W' ⟨rfl, rfl⟩
        refine ⟨111, rfl, .inr ⟨by decide, k0, gd, ?_⟩⟩
        unfold putD
        rw [if_neg (by rw [l0]; omega), if_neg hst, hd1, if_neg hst1, hd2, if_pos hst2, hk0]
      · refine (write_dat k0 d2 at_ _ 8 ci (im.take 8) W.drew gd.disk hk0 h88 (BytesAt.take (hb1 gd) 8 h8).1 (by rw [e2]; omega) (by rw [l2]; omega) hst2 (by rw [w2]; omega) (by rw [n2]; omega)).mono ?_
        rintro e W' ⟨rfl, k1, g1, hk1⟩
        exact ⟨0, rfl, .inl ⟨rfl, ⟨hl, hst, hst1, hst2⟩, k1, gd.next g1, hk1.trans hd3⟩⟩))
    (fun W ⟨⟨hl, hst, hst1, hst2⟩, k0, g, hk0⟩ => step4_of bd _ W (kc g hbd c1) ⟨_, rfl⟩ (by
      have hkp := g.p
      rw [← hkp]
      by_cases hst3 : d3.left = 0
      · refine (sync_stop k0 W g.disk (by rw [dat_left hk0]; exact hst3)).mono ?_
        rintro e W' ⟨rfl, hk⟩
        refine ⟨111, rfl, .inr ⟨by decide, k0, g.next (Goes.calm g.disk hk), ?_⟩⟩
        unfold putD
        rw [if_neg (by rw [l0]; omega), if_neg hst, hd1, if_neg hst1, hd2, if_neg hst2, hd3, if_pos hst3, hk0]
      · refine (sync_dat k0 d3 W g.disk hk0 hst3 (by rw [w3]; omega) (by rw [n3]; omega)).mono ?_
        rintro e W' ⟨rfl, k1, g1, hk1⟩
        exact ⟨0, rfl, .inl ⟨rfl, ⟨hl, hst, hst1, hst2, hst3⟩, k1, g.next g1, hk1.trans hd4⟩⟩))
    ⟨k, Goes.here hd, rfl⟩
  refine main.mono ?_
  rintro e W ⟨n, rfl, h⟩
  rcases h with ⟨rfl, ⟨hl, hst, hst1, hst2, hst3⟩, k1, g, hk1⟩ | ⟨hn, k1, g, hp⟩
  · refine ⟨0, k1, rfl, g, ?_⟩
    unfold putD
    rw [if_neg (by rw [l0]; omega), if_neg hst, hd1, if_neg hst1, hd2, if_neg hst2, hd3, if_neg hst3, hd4, hk1]
  · exact ⟨n, k1, rfl, g, hp⟩

end Go.Proofs.YthgpjlmdllihmaaGreat
/- lay. -/
namespace Go.Proofs.YthgpjlmdllihmaaGreat
open Go.RowKit Go.Shelf Go.Maps
set_option linter.unusedVariables false
set_option linter.unusedSimpArgs false
set_option maxRecDepth 100000

/-- A store behind a Put that was answered so. -/
def St.behind (s : St) (n : Int) (half : Nat) (m : Option Nat) : St :=
  if n = 0 then ⟨s.p, half - s.at_, (s.turn + 1) % 4294967296, m, s.dp, s.br⟩ else if n = 111 then ⟨s.p, s.at_, s.turn, s.m, s.dp, true⟩ else s

/-- What lay has done. -/
structure Lain (w : World) (s : St) (k : Dk) (T : Tab) (m : Option Nat) (n : Int) (k' : Dk) (w' : World) : Prop where
  put : putD k.dat (k.S.length / 2 - s.at_) (image ((s.turn + 1) % 4294967296) T) = (n, k'.dat)
  st : StAt w' (s.behind n (k.S.length / 2) m)
  disk : DiskAt w' k'
  p : k'.p = k.p
  fp : ∀ b ∈ k'.fp, b ∈ k.fp ∨ w.heap.size ≤ b
  all : ∀ b ∈ k'.all, b ∈ k.all ∨ w.heap.size ≤ b
  keeps : Keeps (s.p :: k.fp) w w'

theorem Lain.from {w0 w w' : World} {s : St} {k k' : Dk} {T : Tab} {m : Option Nat} {n : Int} (h : Lain w s k T m n k' w') (hk : Keeps [] w0 w) : Lain w0 s k T m n k' w' := by
  have hs := hk.size
  refine ⟨h.put, h.st, h.disk, h.p, fun b hb => ?_, fun b hb => ?_, (hk.mono (by simp)).trans' h.keeps⟩
  · rcases h.fp b hb with h | h
    · exact .inl h
    · right; omega
  · rcases h.all b hb with h | h
    · exact .inl h
    · right; omega

theorem turn_next (t : Nat) (ht : t < 4294967296) : IntKind.wrap .u32 ((t : Int) + 1) = (((t + 1) % 4294967296 : Nat) : Int) := by
  have e : IntKind.wrap .u32 ((t : Int) + 1) = ((t : Int) + 1) % 4294967296 := rfl
  rw [e]
  omega

set_option maxHeartbeats 1000000 in
theorem lay_is {w : World} {s : St} {k : Dk} {T : Tab} {m : Option Nat} (h : StAt w s) (hd : DiskAt w k) (hp : s.dp = k.p) (hsp : s.p ∉ k.all) (hm : TabV w m T) (hT : Good T) (hw : tweight T + 64 ≤ k.S.length / 2) (hat : s.at_ ≤ k.S.length / 2) (ht : s.turn < 4294967296) (hW : k.W.length ≤ 900000) (hdn : k.done ≤ 4000000000000000000) :
    Calls Tryz.prog 27 #[.pointer (some ⟨s.p, 0, none⟩), .map m] w fun e w' => ∃ n k', e = .returned (.int .i64 n) ∧ Lain w s k T m n k' w' := by
  have hbig := hd.big
  obtain ⟨c0, c1, c2, c3, c4⟩ := h.cell
  rw [hp] at c3
  have HA := Lib.hid (fun X (hk : Keeps [] w X) => areasize_is k X (hd.grow hk))
  have HS := Lib.hid (fun X (hk : Keeps [] w X) => steps_is (some ⟨k.p, 0, none⟩) m T (k.S.length / 2 - s.at_) ((s.turn + 1) % 4294967296) X (hm.grow hk) (Nat.mod_lt _ (by decide)) hT (by omega))
  have hsub : ((k.S.length / 2 : Nat) : Int) - (s.at_ : Int) = ((k.S.length / 2 - s.at_ : Nat) : Int) := by omega
  have HF := Lib.hid (fun X (hk : Keeps [] w X) => (⟨(hk.cell (lt_of_cell c0) (by simp)).trans c0, (hk.cell (lt_of_cell c1) (by simp)).trans c1, (hk.cell (lt_of_cell c3) (by simp)).trans c3⟩ : X.cell? ⟨s.p, 0, none⟩ = some (.int .i64 (s.at_ : Int)) ∧ X.cell? ⟨s.p, 1, none⟩ = some (.int .u32 (s.turn : Int)) ∧ X.cell? ⟨s.p, 3, none⟩ = some (.pointer (some ⟨k.p, 0, none⟩))))
  obtain ⟨at', hat'⟩ : ∃ at', k.S.length / 2 - s.at_ = at' := ⟨_, rfl⟩
  have ea : IntKind.i64.wrap ((k.S.length : Int) / 2 - (s.at_ : Int)) = (at' : Int) := by
    rw [IntWalk.i64_in _ (by omega)]
    omega
  rw [hat'] at HS
  have et := turn_next s.turn ht
  obtain ⟨t1, ht1⟩ : ∃ t1, (s.turn + 1) % 4294967296 = t1 := ⟨_, rfl⟩
  rw [ht1] at et HS
  have hil := image_len t1 T
  have hlt' := hd.lt
  have HR := Lib.hid (fun (w1 : World) (f bd ba bi gi ci bh gh ch : Nat) (hk : Keeps [] w w1)
    (hs : StepsAt w1 f #[.pointer (some ⟨bd, 0, none⟩), .pointer (some ⟨ba, 0, none⟩), .pointer (some ⟨bh, 0, none⟩)] #[.pointer (some ⟨bd, 0, none⟩)] #[.pointer (some ⟨bd, 0, none⟩), .pointer (some ⟨ba, 0, none⟩), .pointer (some ⟨bi, 0, none⟩)] #[.pointer (some ⟨bd, 0, none⟩)])
    (g1 : w1.cell? ⟨bd, 0, none⟩ = some (.pointer (some ⟨k.p, 0, none⟩))) (g2 : w1.cell? ⟨ba, 0, none⟩ = some (.int .i64 (at' : Int)))
    (g3 : w1.cell? ⟨bi, 0, none⟩ = some (.slice (some ⟨gi, 0, none⟩) (image t1 T).length ci)) (g4 : w1.cell? ⟨bh, 0, none⟩ = some (.slice (some ⟨gh, 0, none⟩) (image t1 T).length ch))
    (g5 : BytesAt w1 (.slice (some ⟨gi, 0, none⟩) (image t1 T).length ci) (image t1 T)) (g6 : BytesAt w1 (.slice (some ⟨gh, 0, none⟩) (image t1 T).length ch) (headless (image t1 T)))
    (l1 : w.heap.size ≤ f) (l2 : w.heap.size ≤ bd) (l3 : w.heap.size ≤ ba) (l4 : w.heap.size ≤ bi) (l5 : w.heap.size ≤ bh) (l6 : w.heap.size ≤ gi) (l7 : w.heap.size ≤ gh) =>
    four_is k f bd ba bi bh gi ci gh ch at' (image t1 T) w1 (hd.grow hk) hs g1 g2 g3 g4 g5 g6
      (fun hm => by have := hlt' f (fp_sub hm); omega) (fun hm => by have := hlt' bd (fp_sub hm); omega) (fun hm => by have := hlt' ba (fp_sub hm); omega) (fun hm => by have := hlt' bi (fp_sub hm); omega) (fun hm => by have := hlt' bh (fp_sub hm); omega) (fun hm => by have := hlt' gi (fp_sub hm); omega) (fun hm => by have := hlt' gh (fp_sub hm); omega)
      (by omega) (by omega) hW hdn)
  have HLT := Lib.hid hlt'
  clear hlt' hil
  have HH := Lib.hid h
  have HD := Lib.hid hd
  have hsl := h.lt
  clear h hd hm
  go_enter Tryz.func27, Tryz.ntmps27
  go_wp2
  go_region_held3 (fun w' => w'.cell? ⟨s.p, 0, none⟩ = some (.int .i64 (s.at_ : Int)) ∧ w'.cell? ⟨s.p, 1, none⟩ = some (.int .u32 (s.turn : Int)) ∧ w'.cell? ⟨s.p, 3, none⟩ = some (.pointer (some ⟨k.p, 0, none⟩))) (exact HF.out _ (by repeat (first | exact Keeps.refl [] _ | refine Keeps.alloc ?_ _ | refine Keeps.drew ?_)))
    ((go_at_call 41; refine (HA.out _ (by repeat (first | exact Keeps.refl [] _ | refine Keeps.alloc ?_ _ | refine Keeps.drew ?_))).mono ?_; rintro e w' ⟨rfl, rfl⟩))
  all_goals
    change Exit.then _ _ _ _ (w.alloc (.cells #[.int .i64 (at' : Int), .int .u32 (t1 : Int), .map m] 62)).drew
    obtain ⟨X, hX⟩ : ∃ X, (w.alloc (.cells #[.int .i64 (at' : Int), .int .u32 (t1 : Int), .map m] 62)).drew = X := ⟨_, rfl⟩
    have kX : Keeps [] w X := by rw [← hX]; exact ((Keeps.refl [] w).alloc _).drew
    have bX : X.heap[w.heap.size]? = some (.cells #[.int .i64 (at' : Int), .int .u32 (t1 : Int), .map m] 62 (0, 0)) := by rw [← hX]; exact heap_alloc_new w _
    rw [hX]
    have KX := Lib.hid kX
    have BX := Lib.hid bX
    have HB := Lib.hid (fun Y (hk : Keeps [] X Y) => (three_facts (blk_keep bX hk (by simp))).1)
    have x0 := (HF.out X kX).2.2
    obtain ⟨⟨y0, y1, y2⟩, _⟩ := three_facts bX
    have hS0 : ∀ Y bs, Keeps bs X Y → s.p ∉ bs → w.heap.size ∉ bs → Y.cell? ⟨s.p, 3, none⟩ = some (.pointer (some ⟨k.p, 0, none⟩)) ∧ Y.cell? ⟨w.heap.size, 0, none⟩ = some (.int .i64 (at' : Int)) ∧ Y.cell? ⟨w.heap.size, 1, none⟩ = some (.int .u32 (t1 : Int)) ∧ Y.cell? ⟨w.heap.size, 2, none⟩ = some (.map m) := fun Y bs hk h1 h2 =>
      ⟨(hk.cell (lt_of_cell x0) h1).trans x0, (hk.cell (lt_of_cell y0) h2).trans y0, (hk.cell (lt_of_cell y1) h2).trans y1, (hk.cell (lt_of_cell y2) h2).trans y2⟩
    have HS0 := Lib.hid hS0
    clear kX bX hX hS0
    go_wp2_with fail
    go_region_held3 (fun w' => w'.cell? ⟨s.p, 3, none⟩ = some (.pointer (some ⟨k.p, 0, none⟩)) ∧ w'.cell? ⟨w.heap.size, 0, none⟩ = some (.int .i64 (at' : Int)) ∧ w'.cell? ⟨w.heap.size, 1, none⟩ = some (.int .u32 (t1 : Int)) ∧ w'.cell? ⟨w.heap.size, 2, none⟩ = some (.map m)) (first | exact ⟨x0, y0, y1, y2⟩ | exact s1 | exact s2 | go_keep)
      (first
      | (go_at_call 46; refine (HS.out _ KX.out.drew).mono ?_; rintro e w1 ⟨f, bd, ba, bi, bh, gi, ci, gh, ch, rfl, hst, g1, g2, g3, g4, g5, g6, l1, l2, l3, l4, l5, l6, l7, hk⟩; have H4 := Lib.hid (HR.out w1 f bd ba bi gi ci bh gh ch (KX.out.drew.trans' hk) hst g1 g2 g3 g4 g5 g6 (Nat.le_trans KX.out.size l1) (Nat.le_trans KX.out.size l2) (Nat.le_trans KX.out.size l3) (Nat.le_trans KX.out.size l4) (Nat.le_trans KX.out.size l5) (Nat.le_trans KX.out.size l6) (Nat.le_trans KX.out.size l7)); have K1 := Lib.hid hk; have s1 := HS0.out w1 [] ((Keeps.refl [] X).drew.trans' hk) (by simp) (by simp); clear hst g1 g2 g3 g4 g5 g6 l1 l2 l3 l4 l5 l6 l7 hk)
      | (go_at_call 45; refine H4.out.mono ?_; rintro e w2 ⟨n, k', rfl, hg, hp'⟩; have HG := Lib.hid hg; have HP := Lib.hid hp'; have s2 := HS0.out w2 k.fp ((((Keeps.refl [] X).drew.trans' K1.out).mono (by simp)).trans' hg.keeps) (fun hm => hsp (fp_sub hm)) (fun hm => by have := HLT.out _ (fp_sub hm); omega); clear hg hp'))
    all_goals
      obtain ⟨_, z0, z1, z2⟩ := s2
      have k2 : Keeps k.fp w w2 := ((KX.out.drew.trans' K1.out).mono (by simp)).trans' HG.out.keeps
      have hsf : s.p ∉ k.fp := fun hm => hsp (fp_sub hm)
      have hs2 : StAt w2 s := HH.out.keep k2 hsf
      obtain ⟨d0, d1, d2, d3, d4⟩ := hs2.cell
      have f0 := free_of_blk hs2 0
      have f1 := free_of_blk hs2 1
      have f2 := free_of_blk hs2 2
      have f4 := free_of_blk hs2 4
      have HS2 := Lib.hid hs2
      have K2 := Lib.hid k2
      have hall : ∀ b ∈ k'.all, b ∈ k.all ∨ w.heap.size ≤ b := fun b hb => by
        rcases HG.out.all b hb with h | h
        · exact .inl h
        · right
          have h1 := (KX.out.drew.trans' K1.out).size
          omega
      have hfp : ∀ b ∈ k'.fp, b ∈ k.fp ∨ w.heap.size ≤ b := fun b hb => by
        rcases HG.out.fp b hb with h | h
        · exact .inl h
        · right
          have h1 := (KX.out.drew.trans' K1.out).size
          omega
      have hnp : s.p ∉ k'.all := fun hb => by
        rcases hall _ hb with h | h
        · exact hsp h
        · omega
      have HALL := Lib.hid hall
      have HFP := Lib.hid hfp
      have HNP := Lib.hid hnp
      clear hs2 k2 hall hfp hnp x0 y0 y1 y2
      by_cases h0 : n = 0
      · subst h0
        go_wp2_with fail
        go_ret
        have k3 := (((Keeps.refl [s.p] w2).setCell (p := ⟨s.p, 0, none⟩) (.inl (by simp)) (.int .i64 (at' : Int))).setCell (p := ⟨s.p, 1, none⟩) (.inl (by simp)) (.int .u32 (t1 : Int))).setCell (p := ⟨s.p, 2, none⟩) (.inl (by simp)) (.map m)
        refine ⟨0, k', rfl, ⟨by rw [hat', ht1]; exact HP.out, ?_, HG.out.disk.keep k3 (fun b hb hm => HNP.out (by rw [← List.mem_singleton.1 hm]; exact hb)), HG.out.p, HFP.out, HALL.out, (K2.out.mono (cs := s.p :: k.fp) (fun x hx => .inl (List.mem_cons_of_mem _ hx))).trans k3 (fun x hx => .inl (by rw [List.mem_singleton.1 hx]; simp))⟩⟩
        have := blk_set (blk_set (blk_set HS2.out 0 (.int .i64 (at' : Int))) 1 (.int .u32 (t1 : Int))) 2 (.map m)
        unfold St.behind
        rw [if_pos rfl, hat', ht1]
        exact this
      · by_cases h1 : n = 111
        · subst h1
          go_wp2_with fail
          go_ret
          have k3 := ((Keeps.refl [s.p] w2).setCell (p := ⟨s.p, 4, none⟩) (.inl (by simp)) (.bool true))
          refine ⟨111, k', rfl, ⟨by rw [hat', ht1]; exact HP.out, ?_, HG.out.disk.keep k3 (fun b hb hm => HNP.out (by rw [← List.mem_singleton.1 hm]; exact hb)), HG.out.p, HFP.out, HALL.out, (K2.out.mono (cs := s.p :: k.fp) (fun x hx => .inl (List.mem_cons_of_mem _ hx))).trans k3 (fun x hx => .inl (by rw [List.mem_singleton.1 hx]; simp))⟩⟩
          have := blk_set HS2.out 4 (.bool true)
          unfold St.behind
          rw [if_neg (by decide), if_pos rfl]
          exact this
        · go_wp2_with fail
          go_ret
          refine ⟨n, k', rfl, ⟨by rw [hat', ht1]; exact HP.out, ?_, HG.out.disk, HG.out.p, HFP.out, HALL.out, K2.out.mono (fun x hx => .inl (List.mem_cons_of_mem _ hx))⟩⟩
          unfold St.behind
          rw [if_neg h0, if_neg h1]
          exact HS2.out

end Go.Proofs.YthgpjlmdllihmaaGreat
