/- Texts of one proof, laid together: N11. -/
import Derived.Test.YtmgkejgmkfeccaaDoorM06
import Derived.Deep.RegionHeld3
import Derived.Deep.AppendLies
/- dn: a Value's text; walked. -/
namespace Go.Proofs.YtmgkejgmkfeccaaDoor
open Go.RowKit Go.Shelf
set_option linter.unusedVariables false
set_option linter.unusedSimpArgs false
set_option maxRecDepth 100000

theorem src_lit6 (w : World) (cs : Array Value) (l : List UInt8) (h : cs = (l.map bv).toArray) : Src (w.alloc (.cells cs 5)) (some ⟨w.heap.size, 0, none⟩) l.length (l.map bv) := by
  subst h
  refine ⟨(fun h => by cases h), fun ad hA j u hu => ?_⟩
  injection hA with hA
  subst hA
  rw [add_at, Nat.zero_add, World.cell?_alloc_new]
  simpa using hu

theorem text_step (N : Nat) (v : List UInt8) (j : Nat) (u : UInt8) (hu : v[j]? = some u) : text6 N j (v.drop j) = esc6 j N u ++ text6 N (j + 1) (v.drop (j + 1)) := by
  obtain ⟨hj, rfl⟩ := List.getElem?_eq_some_iff.1 hu
  rw [List.drop_eq_getElem_cons hj]
  rfl

theorem hex_at (k : IntKind) (n : Nat) (h : n < 16) (W : World) : (Instr.index 9 (.string ⟨#[48, 49, 50, 51, 52, 53, 54, 55, 56, 57, 97, 98, 99, 100, 101, 102]⟩) (.int k (n : Int))).run Tryd.prog W = .ok (.int .u8 ((hexd n).toNat : Int)) W := by
  rw [run_index_string W 9 _ k (n : Int) Tryd.underlying9, dif_pos (by simp [ByteArray.size]; omega)]
  have hc : n = 0 ∨ n = 1 ∨ n = 2 ∨ n = 3 ∨ n = 4 ∨ n = 5 ∨ n = 6 ∨ n = 7 ∨ n = 8 ∨ n = 9 ∨ n = 10 ∨ n = 11 ∨ n = 12 ∨ n = 13 ∨ n = 14 ∨ n = 15 := by omega
  rcases hc with rfl | rfl | rfl | rfl | rfl | rfl | rfl | rfl | rfl | rfl | rfl | rfl | rfl | rfl | rfl | rfl
  all_goals rfl
theorem and_15 : ∀ n : Fin 256, bits BinOp.and IntKind.u8 (n.val : Int) 15 = ((n.val % 16 : Nat) : Int) := by decide +kernel

theorem step_append_opt {P : Program} {w : World} {ops : Array Oper} {o : Oper} {a : Act} {K : Act → World → Prop} {Q : Exit → Act → World → Prop} {E : Prop} (hgd : o.guard = none) (s x : Operand) (t : TypeId)
    (ho : o.op = .call { callee := .builtin .append, args := #[s, x], argTypes := #[t, t] })
    (base : Nat) (e : TypeId) (i : TypeInfo) (z : Value) (size bytes : Nat) (ht : P.underlying t = some (.slice e)) (hi : P.info? e = some i) (hz : i.zero = some z)
    (hsize : i.size = size) (hby : i.bytes = bytes) (hzs : z.cells.size = size) (hsz : 0 < size)
    (v : Value) (n : Nat) (xs : List Value) (hs : a.eval s = v) (hown : w.ownsRow base e size v n xs)
    (A : Option Addr) (m c : Nat) (news : List Value) (hx : a.eval x = .slice A m c) (hl : news.length = m * size) (hnews : Src w A m news) (h1 : ∀ u ∈ news, u.oneCell' = true)
    (h63 : n + m ≤ maxLen) (hbytes : (n + m) * bytes ≤ 140737488355328) (hbase : base ≤ w.heap.size)
    (h : ∀ v' w', w'.ownsRow base e size v' (n + m) (xs ++ news) → w.grownBy w' v.ownBlock → (v'.ownBlock = v.ownBlock ∨ v'.ownBlock = some w.heap.size) → K (a.put o.dst v') w') :
    if Region.wanted o (yielded ops a.tmps) = true then Oper.wp P o a w K Q else E := by
  have hw : Region.wanted o (yielded ops a.tmps) = true := by simp [Region.wanted, hgd]
  rw [if_pos hw]
  exact wp_append_opt s x t ho base e i z size bytes ht hi hz hsize hby hzs hsz v n xs hs hown A m c news hx hl hnews h1 h63 hbytes hbase h


set_option maxHeartbeats 4000000 in
theorem valuetext_is (b : Nat) (v : List UInt8) (w : World) (hv : v.length ≤ 1000000000) (hm : MarksAt w b) :
    Calls Tryd.prog 36 #[.map (some b), .string ⟨v.toArray⟩] w fun e w' => e = .returned (.string ⟨(text6 v.length 0 v).toArray⟩) ∧ Keeps [] w w' := by
  obtain ⟨iu, hiu, hzu0, hzu1, hzu2⟩ := info_parts u8_info
  obtain ⟨C, O, hcv, hcap, hrow⟩ := conv_row v (by omega)
  have hcv2 := hcv
  have HBY : Hid (BytesAt (w.alloc (O w)).drew (.slice (some ⟨w.heap.size, 0, none⟩) v.length (C w)) v) := (hrow w).bytes (hcap w).1 (hcap w).2
  have HM1 : Hid (∀ X, Keeps [] (w.alloc (O w)).drew X → MarksAt X b) := fun X hk => by
    have hlt := World.ownsMap.lt hm
    obtain ⟨es, clock, h1, h2⟩ := hm
    have hk2 : Keeps [] w X := (((Keeps.refl [] w).alloc _).drew).trans' hk
    exact ⟨es, clock, (hk2.block b hlt (by simp)).trans h1, h2⟩
  have HK1 : Hid (Keeps [] w (w.alloc (O w)).drew) := ((Keeps.refl [] w).alloc _).drew
  have HLT : Hid (text6 v.length 0 v = [] ++ text6 v.length 0 (v.drop 0)) := rfl
  have htl := text_len6 v.length v 0
  obtain ⟨N, hN⟩ : ∃ N, v.length = N := ⟨_, rfl⟩
  rw [hN] at hv hcv2 HBY HLT htl ⊢
  have HN := Lib.hid hN
  obtain ⟨tx, htx⟩ : ∃ tx, text6 N 0 v = tx := ⟨_, rfl⟩
  rw [htx] at HLT htl ⊢
  clear hcv hcap hrow hm hN htx
  go_enter Tryd.func36, Tryd.ntmps36
  go_wp2_with fail
  generalize (w.alloc (O w)).drew = W1 at *
  obtain ⟨cv, hcw⟩ : ∃ cv, C w = cv := ⟨_, rfl⟩
  rw [hcw] at HBY ⊢
  clear hcw hcv2
  go_loopw [5, 11] (fun o i wr => ∃ (j : Nat) (acc : List UInt8) (A : Option Addr) (cc : Nat), o = .slice A acc.length cc ∧ i = .int .i64 (j : Int) ∧ j ≤ N ∧ Hid (tx = acc ++ text6 N j (v.drop j)) ∧ Hid (wr.ownsRow W1.heap.size 5 1 (.slice A acc.length cc) acc.length (acc.map bv)) ∧ Hid (Keeps [] W1 wr)) (fun _ i _ => N - (intOf i).toNat)
  case atStart => exact ⟨0, [], none, 0, rfl, rfl, Nat.zero_le _, HLT.out, World.ownsRow_nil _ _ _ _, Keeps.refl _ _⟩
  case round =>
    obtain ⟨j, acc, A, cc, rfl, rfl, hj, HD, HOW, HKR⟩ := hrel
    have hal : acc.length ≤ tx.length := by rw [HD.out]; simp
    by_cases hlt : j < N
    · obtain ⟨b1, o1, hA1, hcc⟩ := bytes_addr (HBY.out.grow HKR.out) (by omega)
      injection hA1 with hA1
      injection hA1 with e1 e2 _
      subst e1 e2
      obtain ⟨u, hu⟩ : ∃ u, v[j]? = some u := ⟨_, List.getElem?_eq_getElem (by have := HN.out; omega)⟩
      have hcu := hcc j u hu
      rw [Nat.zero_add] at hcu
      have hul : u.toNat < 256 := u.toNat_lt
      have HP := Lib.hid (isplain_is u wr)
      have hpl9 := places_is j v.length wr (by have := HN.out; omega) (by have := HN.out; omega)
      rw [show plc6 j v.length = plc6 j N by rw [HN.out]] at hpl9
      have HPL := Lib.hid hpl9
      clear hpl9
      have HAS := Lib.hid (ask_is b u (plc6 j N) wr (HM1.out wr HKR.out) (plc_in j N))
      have HST : Hid (tx = acc ++ esc6 j N u ++ text6 N (j + 1) (v.drop (j + 1))) := by
        show _ = _
        rw [HD.out, text_step N v j u hu, List.append_assoc]
      obtain ⟨es, hes⟩ : ∃ es, esc6 j N u = es := ⟨_, rfl⟩
      rw [hes] at HST
      unfold esc6 at hes
      obtain ⟨pl, hpl⟩ : ∃ pl, plain1 u = pl := ⟨_, rfl⟩
      obtain ⟨pc, hpc⟩ : ∃ pc, plc6 j N = pc := ⟨_, rfl⟩
      rw [hpl] at HP hes
      rw [hpc] at HPL HAS hes
      obtain ⟨q, hq⟩ : ∃ q, ask6 (mark6 u.toNat) pc = q := ⟨_, rfl⟩
      rw [hq] at HAS hes
      have HES := Lib.hid hes
      have hsz := HKR.out.size
      clear hes hcc hu hpl hpc hq
      generalize han : acc.length = an at *
      have HAN := Lib.hid han
      clear han
      go_wp2_with fail
      refine HP.out.mono ?_
      rintro e w2 ⟨rfl, rfl⟩
      cases pl
      · have hx1 := hex_at .u8 (u.toNat / 16) (by omega)
        have hx2 := hex_at .u8 (u.toNat % 16) (by omega)
        have hes : es = [92, hexd (u.toNat / 16), hexd (u.toNat % 16)] := HES.out.symm
        have hq2 : bits BinOp.and IntKind.u8 (u.toNat : Int) 15 = ((u.toNat % 16 : Nat) : Int) := and_15 ⟨u.toNat, hul⟩
        have hp2 : (u.toNat : Int) / 16 = ((u.toNat / 16 : Nat) : Int) := by omega
        generalize ((u.toNat / 16 : Nat) : Int) = pp at hx1 hp2
        generalize ((u.toNat % 16 : Nat) : Int) = qq at hx2 hq2
        generalize hexd (u.toNat / 16) = d1 at *
        generalize hexd (u.toNat % 16) = d2 at *
        go_wp2_with fail
        have hcell : (#[.int .u8 92, .int .u8 (d1.toNat : Int), .int .u8 (d2.toNat : Int)] : Array Value) = (([92, d1, d2] : List UInt8).map bv).toArray := rfl
        have hown9 : Hid ((wr.alloc (.cells #[.int .u8 92, .int .u8 (d1.toNat : Int), .int .u8 (d2.toNat : Int)] 5)).drew.ownsRow W1.heap.size 5 1 (.slice A an cc) an (acc.map bv)) := own_keep HOW.out (((Keeps.refl [] wr).alloc _).drew) (by simp)
        have hsrc9 : Hid (Src (wr.alloc (.cells #[.int .u8 92, .int .u8 (d1.toNat : Int), .int .u8 (d2.toNat : Int)] 5)).drew (some ⟨wr.heap.size, 0, none⟩) 3 ([92, d1, d2].map bv)) := (src_lit6 wr _ [92, d1, d2] hcell).grow ((Keeps.refl [] _).drew)
        have hkp9 : Hid (Keeps [] W1 (wr.alloc (.cells #[.int .u8 92, .int .u8 (d1.toNat : Int), .int .u8 (d2.toNat : Int)] 5)).drew) := (HKR.out.alloc _).drew
        clear hcell
        go_region_law (refine step_append_opt rfl (.tmp 24) (.tmp 31) 83 rfl W1.heap.size 5 iu _ 1 1 Tryd.underlying83 hiu hzu0 hzu1 hzu2 rfl (by decide) (.slice A an cc) an (acc.map bv) rfl hown9.out (some ⟨wr.heap.size, 0, none⟩) 3 3 ([92, d1, d2].map bv) rfl rfl hsrc9.out bvs_one (by unfold maxLen; omega) (by omega) (by simp; omega) ?_; intro v3 w3 ho hg hs; rw [← List.map_append] at ho; obtain ⟨VB, vd, hv⟩ := own_slice ho; subst hv; have HO3 := Lib.hid ho; have HK3 := Lib.hid (keeps_own8 hown9.out hkp9.out hg); clear ho hg hs)
        all_goals
          go_wp2_with fail
          go_roundw
          case rel => exact ⟨j + 1, acc ++ [92, d1, d2], VB, vd, by rw [List.length_append, HAN.out]; rfl, by go_num, by omega, by have h9 := HST.out; rw [hes] at h9; exact h9, by rw [List.length_append, HAN.out]; exact HO3.out, HK3.out⟩
          case measure => simp [intOf]; omega
      · go_wp2_with fail
        refine HPL.out.mono ?_
        rintro e w2 ⟨rfl, rfl⟩
        go_wp2_with fail
        refine HAS.out.mono ?_
        rintro e w2 ⟨rfl, rfl⟩
        cases q
        · have hes : es = [u] := HES.out.symm
          go_wp2_with (at_builtin; refine wpList_append_opt rfl (.tmp 16) (.tmp 18) 83 rfl W1.heap.size 5 iu _ 1 1 Tryd.underlying83 hiu hzu0 hzu1 hzu2 rfl (by decide) (.slice A an cc) an (acc.map bv) rfl (HOW.out.alloc _) (some ⟨wr.heap.size, 0, none⟩) 1 1 ([u].map bv) rfl rfl (src_lit6 wr _ [u] rfl) bvs_one (by unfold maxLen; omega) (by omega) (by simp; omega) ?_; intro v3 w3 ho hg hs; rw [← List.map_append] at ho; obtain ⟨VB, vd, hv⟩ := own_slice ho; subst hv; have HO3 := Lib.hid ho; have HK3 := Lib.hid (keeps_own8 (HOW.out.alloc _) (HKR.out.alloc _) hg); clear ho hg hs)
          go_roundw
          case rel => exact ⟨j + 1, acc ++ [u], VB, vd, by rw [List.length_append, HAN.out]; rfl, by go_num, by omega, by have h9 := HST.out; rw [hes] at h9; exact h9, by rw [List.length_append, HAN.out]; exact HO3.out, HK3.out⟩
          case measure => simp [intOf]; omega
        · have hes : es = [92, u] := HES.out.symm
          go_wp2_with (at_builtin; refine wpList_append_opt rfl (.tmp 41) (.tmp 43) 83 rfl W1.heap.size 5 iu _ 1 1 Tryd.underlying83 hiu hzu0 hzu1 hzu2 rfl (by decide) (.slice A an cc) an (acc.map bv) rfl (HOW.out.alloc _) (some ⟨wr.heap.size, 0, none⟩) 2 2 ([92, u].map bv) rfl rfl (src_lit6 wr _ [92, u] rfl) bvs_one (by unfold maxLen; omega) (by omega) (by simp; omega) ?_; intro v3 w3 ho hg hs; rw [← List.map_append] at ho; obtain ⟨VB, vd, hv⟩ := own_slice ho; subst hv; have HO3 := Lib.hid ho; have HK3 := Lib.hid (keeps_own8 (HOW.out.alloc _) (HKR.out.alloc _) hg); clear ho hg hs)
          go_roundw
          case rel => exact ⟨j + 1, acc ++ [92, u], VB, vd, by rw [List.length_append, HAN.out]; rfl, by go_num, by omega, by have h9 := HST.out; rw [hes] at h9; exact h9, by rw [List.length_append, HAN.out]; exact HO3.out, HK3.out⟩
          case measure => simp [intOf]; omega
    · obtain rfl : j = N := by omega
      have hac : acc = tx := by
        have h9 := HD.out
        rw [List.drop_of_length_le (by have := HN.out; omega)] at h9
        simp [text6] at h9
        exact h9.symm
      subst hac
      have hcb := conv_bytes (BytesAt.of_own HOW.out)
      have HKW := Lib.hid (HK1.out.trans' HKR.out)
      clear hal htl HD HLT HOW
      go_wp2_with fail
      go_ret
      exact ⟨rfl, HKW.out⟩

end Go.Proofs.YtmgkejgmkfeccaaDoor
