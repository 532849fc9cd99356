/- Texts of mine, put together. -/
import Derived.Test.YtldkhbkgmiicbaaGreatDoorBu25
import Derived.Test.YtldkhbkgmiicbaaGreatDoorBu32
import Derived.Laws.StructEq

/- The program's own text and number, as landed at e169a841. -/
namespace Go.Proofs.YtldkhbkgmiicbaaGreatDoor
open Go.RowKit Go.Deep
set_option linter.unusedVariables false
set_option linter.unusedSimpArgs false

theorem Hd.bytesOf_row (s : Hd.B) : Lib.bytesOf (s.map fun c => (c.toNat : Int)) = s := by
  unfold Lib.bytesOf
  rw [List.map_map]
  conv => rhs; rw [← List.map_id s]
  apply List.map_congr_left
  intro c _
  show UInt8.ofNat ((c.toNat : Int)).toNat = c
  simp
theorem row_congr10 {w : World} {A : Option Addr} {L : Nat} {f g : Nat → Int} (h : RowAt w A L f) (hg : ∀ i, 0 ≤ g i ∧ g i < 256) (e : ∀ i, i < L → g i = f i) : RowAt w A L g := by
  refine ⟨?_, hg⟩
  rcases h.1 with h0 | ⟨b, off, hA, hc⟩
  · exact Or.inl h0
  · exact Or.inr ⟨b, off, hA, fun i hi => by rw [hc i hi, e i hi]⟩
/-- bytes.Cut at a nought -/
theorem hcut_any (g o c1 g2 : Nat) (s : Hd.B) (hn : s.length ≤ 4611686018427387904) (hcap : s.length ≤ c1) (w : World) (hr : RowAt w (some ⟨g, o, none⟩) s.length (Hd.rowF s)) (hc2 : w.cell? ⟨g2, 0, none⟩ = some (.int .u8 0)) :
    Calls Tryz.prog 89 #[.slice (some ⟨g, o, none⟩) s.length c1, .slice (some ⟨g2, 0, none⟩) 1 1] w fun e w' => e = .returned (Lib.cutV (some ⟨g, o, none⟩) s.length c1 1 (Lib.indexByte s 0)) ∧ Bw w w' := by
  have hl : ((s.map fun c => (c.toNat : Int))).length = s.length := List.length_map _
  refine (Any.bytes_Cut_of (ρ := sx4_ren) sx4 (some ⟨g, o, none⟩) (some ⟨g2, 0, none⟩) s.length c1 1 1 _ w hcap (Lib.indexByte_ge _ _) (fun h => ?_) hn ?_).mono fun e w' ⟨h1, q, h2⟩ => ⟨h1, by rw [h2]; exact Bw.drewN _ _⟩
  · obtain ⟨j, hj⟩ : ∃ j : Nat, Lib.indexByte s 0 = j := ⟨(Lib.indexByte s 0).toNat, by omega⟩
    have := (List.getElem?_eq_some_iff.1 (Lib.indexByte_some hj).1).1
    omega
  · have := Any.bytes_Index_one (ρ := sx4_ren.viaSlbt) sx4.index g o s.length c1 g2 0 1 (s.map fun c => (c.toNat : Int)) 0 w hl (fun i hi => by
      obtain ⟨b, off, e, hc⟩ := hr.at hi
      cases e
      rw [hc i hi, Hd.rowF_at (List.getElem?_eq_getElem hi), List.getD_eq_getElem?_getD, List.getElem?_map, List.getElem?_eq_getElem hi]; rfl) hc2
    rw [Hd.bytesOf_row] at this
    exact this.mono fun e w' ⟨h1, h2⟩ => ⟨h1, 0, h2⟩
theorem Hd.first_all {l : Hd.B} (h : Lib.indexByte l 0 = -1) : Hd.first l = l := by
  have h2 : ∀ c ∈ l, (c != 0) = true := fun c hc => by
    obtain ⟨k, hk⟩ := List.getElem?_of_mem hc
    rw [bne_iff_ne]
    intro e
    rw [e] at hk
    exact Lib.indexByte_none h k hk
  have := List.takeWhile_append_of_pos (p := fun c : UInt8 => c != 0) (l₂ := []) h2
  rw [List.append_nil, List.takeWhile_nil, List.append_nil] at this
  exact this
theorem Hd.first_to {l : Hd.B} {j : Nat} (h : Lib.indexByte l 0 = j) : Hd.first l = l.take j ∧ j < l.length := by
  obtain ⟨h1, h2⟩ := Lib.indexByte_some h
  have hj := (List.getElem?_eq_some_iff.1 h1).1
  refine ⟨?_, hj⟩
  have h3 : ∀ c ∈ l.take j, (c != 0) = true := fun c hc => by
    obtain ⟨k, hk⟩ := List.getElem?_of_mem hc
    have hk' := (List.getElem?_eq_some_iff.1 hk).1
    rw [List.length_take] at hk'
    rw [List.getElem?_take, if_pos (by omega)] at hk
    rw [bne_iff_ne]
    intro e
    rw [e] at hk
    exact h2 k (by omega) hk
  have h4 : l.drop j = 0 :: l.drop (j + 1) := by
    rw [List.drop_eq_getElem_cons hj]
    congr 1
    rw [List.getElem?_eq_getElem hj] at h1
    exact Option.some.inj h1
  have := List.takeWhile_append_of_pos (p := fun c : UInt8 => c != 0) (l₂ := l.drop j) h3
  rw [List.take_append_drop, h4, List.takeWhile_cons_of_neg (by decide), List.append_nil] at this
  exact this
theorem Hd.str_take {l : Hd.B} {j : Nat} (h : j ≤ l.length) : str (Hd.rowF l) j = Hd.S (l.take j) := by
  have e : (l.take j).length = j := by rw [List.length_take]; omega
  have := Hd.str_S (l.take j)
  rw [e] at this
  rw [← this]
  unfold str
  congr 1
  apply List.map_congr_left
  intro i hi
  have hi := List.mem_range.1 hi
  rw [Hd.rowF_at (List.getElem?_eq_getElem (show i < l.length by omega)), Hd.rowF_at (show (l.take j)[i]? = some l[i] by rw [List.getElem?_take, if_pos hi, List.getElem?_eq_getElem])]
set_option maxRecDepth 100000 in
set_option maxHeartbeats 2000000 in
theorem htext_any (g o n cap : Nat) (l : Hd.B) (hl : l.length = n) (hn : n ≤ 512) (hcap : n ≤ cap) (w : World) (hr : RowAt w (some ⟨g, o, none⟩) n (Hd.rowF l)) :
    Calls Tryz.prog 66 #[.slice (some ⟨g, o, none⟩) n cap] w fun e w' => e = .returned (.string (Hd.S (Hd.first l))) ∧ Bw w w' := by
  have HR : Hid (∀ W, Bw w W → RowAt W (some ⟨g, o, none⟩) n (Hd.rowF l)) := fun W h => hr.keep h
  obtain ⟨W1, hW1⟩ : ∃ W, W = w.alloc (.cells #[.int .u8 0] 5) := ⟨_, rfl⟩
  have hb1 : Bw w W1 := by rw [hW1]; exact bw_alloc7 (Bw.refl _) _
  have hc1 : W1.cell? ⟨w.heap.size, 0, none⟩ = some (.int .u8 0) := by rw [hW1]; exact cell_of_row _ _ 0 _ _ _ (heap_alloc_new _ _)
  have HC : Hid (W1.cell? ⟨w.heap.size, 0, none⟩ = some (.int .u8 0)) := hc1
  clear hr hc1
  have hL : Hid (l.length = n) := hl
  clear hl
  have HCut : Hid (∀ W, Bw w W → W.cell? ⟨w.heap.size, 0, none⟩ = some (.int .u8 0) → Calls Tryz.prog 89 #[.slice (some ⟨g, o, none⟩) n cap, .slice (some ⟨w.heap.size, 0, none⟩) 1 1] W fun e w' => e = .returned (Lib.cutV (some ⟨g, o, none⟩) n cap 1 (Lib.indexByte l 0)) ∧ Bw W w') := fun W h h2 => by
    have := hcut_any g o cap w.heap.size l (by rw [hL.out]; omega) (by rw [hL.out]; exact hcap) W (by rw [hL.out]; exact HR.out W h) h2
    rw [hL.out] at this
    exact this
  by_cases hx : Lib.indexByte l 0 = -1
  · have HX : Hid (Lib.cutV (some ⟨g, o, none⟩) n cap 1 (Lib.indexByte l 0) = .tuple #[.slice (some ⟨g, o, none⟩) n cap, .slice none 0 0, .bool false]) := by show _ = _; rw [hx]; rfl
    have HF : Hid (Hd.S (Hd.first l) = str (Hd.rowF l) n) := by show _ = _; rw [Hd.first_all hx, ← hL.out, Hd.str_S]
    rw [HF.out]
    clear hx
    go_enter Tryz.func66, Tryz.ntmps66
    go_wp2_with (first | (refine wpList_lit7 (by rfl) 1 _ rfl [0] rfl (by decide) (by decide) rfl ?_; simp only [List.map_cons, List.map_nil]; rw [← hW1]; clear hW1) | (go_at_call 89; refine (HCut.out _ hb1 HC.out).mono ?_; rintro e w2 ⟨rfl, hw2⟩; rw [HX.out]; have cv := conv_row (C := cap) (HR.out _ (hb1.trans hw2))))
    go_ret
    exact ⟨rfl, hb1.trans hw2⟩
  · obtain ⟨j, hj⟩ : ∃ j : Nat, Lib.indexByte l 0 = j := ⟨(Lib.indexByte l 0).toNat, by have := Lib.indexByte_ge l 0; omega⟩
    obtain ⟨hf1, hf2⟩ := Hd.first_to hj
    rw [hL.out] at hf2
    obtain ⟨V, hV⟩ : ∃ V, Hid (V = Lib.fromV (some ⟨g, o, none⟩) n cap (j + 1)) := ⟨_, rfl⟩
    have HX : Hid (Lib.cutV (some ⟨g, o, none⟩) n cap 1 (Lib.indexByte l 0) = .tuple #[.slice (some ⟨g, o, none⟩) j cap, V, .bool true]) := by show _ = _; rw [hj, hV.out]; rfl
    have HF : Hid (Hd.S (Hd.first l) = str (Hd.rowF l) j) := by show _ = _; rw [hf1, Hd.str_take (by rw [hL.out]; omega)]
    rw [HF.out]
    clear hx hj hf1
    go_enter Tryz.func66, Tryz.ntmps66
    go_wp2_with (first | (refine wpList_lit7 (by rfl) 1 _ rfl [0] rfl (by decide) (by decide) rfl ?_; simp only [List.map_cons, List.map_nil]; rw [← hW1]; clear hW1) | (go_at_call 89; refine (HCut.out _ hb1 HC.out).mono ?_; rintro e w2 ⟨rfl, hw2⟩; rw [HX.out]; have cv := conv_row (C := cap) (row_less7 (HR.out _ (hb1.trans hw2)) (m := j) (by omega))))
    go_ret
    exact ⟨rfl, hb1.trans hw2⟩
/-- a number with a form in so many bytes -/
def Hd.Fits (m L : Nat) : Prop := m ≤ 9223372036854775807 ∧ (m < 8 ^ (L - 1) ∨ m < 256 ^ (L - 1))
/-- the number that a field tells, if it is one's form -/
def Hd.NumOf (l : Hd.B) (z : Int) : Prop := ∀ m : Nat, Hd.Fits m l.length → Hd.numB m l.length = l → z = (m : Int)
theorem Hd.numof {l : Hd.B} (h2 : 2 ≤ l.length) {m : Nat} (hf : Hd.Fits m l.length) (h : Hd.numB m l.length = l) : Hd.NumOf l (m : Int) := fun k hk hl => by
  have := Hd.numB_one h2 hf.2 hk.2 (h.trans hl.symm)
  rw [this]
theorem hnumber_any (A : Option Addr) (n ca : Nat) (l : Hd.B) (hl : l.length = n) (h2 : 2 ≤ n) (h12 : n ≤ 12) (hca : n ≤ ca) (w : World) (hr : RowAt w A n (Hd.rowF l)) :
    Calls Tryz.prog 67 #[.slice A n ca] w fun e w' => (∃ z, e = .returned (.int .i64 z) ∧ Hd.NumOf l z) ∧ Bw w w' := by
  by_cases hex : ∃ m, Hd.Fits m n ∧ Hd.numB m n = l
  · obtain ⟨m, hf, hm⟩ := hex
    have HN : Hid (Hd.NumOf l (m : Int)) := Hd.numof (by omega) (by rw [hl]; exact hf) (by rw [hl]; exact hm)
    have hs := Oct.form_says (n := m) (W := n) h2 h12 hf.2 hf.1
    have hr2 : RowAt w A n (Oct.formF m n) := row_congr10 hr (Oct.formF_bd m n) (fun i hi => by rw [← hm, Hd.rowF_num hi])
    have HI : Hid (IsForm n (Oct.formF m n) ((m : Int)).toNat) := by rw [Int.toNat_natCast]; exact ⟨hf.2, fun _ _ => rfl⟩
    clear hr hm
    go_enter Tryz.func67, Tryz.ntmps67
    go_wp2_with (go_at_call 90; refine (oexact_any A n ca (Oct.formF m n) hca _ hr2 _ _ _ hs).mono ?_; rintro e w1 ⟨hx, hw1⟩; obtain rfl := hx.yes rfl HI.out)
    go_ret
    exact ⟨⟨_, rfl, HN.out⟩, hw1⟩
  · have HN : Hid (∀ z, Hd.NumOf l z) := fun z m hf hm => absurd ⟨m, by rw [← hl]; exact hf, by rw [← hl]; exact hm⟩ hex
    obtain ⟨z, a, er, hs⟩ := says_ex n (Hd.rowF l)
    have HX : Hid (∀ e, ExactSays n (Hd.rowF l) z er e → ∃ x y, e = .returned (.tuple #[.int .i64 x, .int .i64 y])) := fun e h => by
      by_cases h0 : er = 0
      · by_cases h1 : IsForm n (Hd.rowF l) z.toNat
        · exact ⟨_, _, h.yes h0 h1⟩
        · exact ⟨_, _, h.no h0 h1⟩
      · exact ⟨_, _, h.bad h0⟩
    clear hex
    go_enter Tryz.func67, Tryz.ntmps67
    go_wp2_with (go_at_call 90; refine (oexact_any A n ca (Hd.rowF l) hca _ hr _ _ _ hs).mono ?_; rintro e w1 ⟨hx, hw1⟩; obtain ⟨x, y, rfl⟩ := HX.out _ hx)
    go_ret
    exact ⟨⟨_, rfl, HN.out _⟩, hw1⟩
end Go.Proofs.YtldkhbkgmiicbaaGreatDoor

/- The program's own told, as landed at e169a841 (written by mktold10.py). -/
namespace Go.Proofs.YtldkhbkgmiicbaaGreatDoor
open Go.RowKit Go.Deep
set_option linter.unusedVariables false
set_option linter.unusedSimpArgs false

theorem step_store_row {P : Program} {w : World} {ops : Array Oper} {o : Oper} {a : Act} {K : Act → World → Prop} {Q : Exit → Act → World → Prop} {E : Prop} (hgd : o.guard = none) (ty : TypeId) (x y : Operand) (ho : o.op = .store ty x y)
    (g : Nat) (cells : Array Value) (hx : a.eval x = .pointer (some ⟨g, 0, none⟩)) (hy : a.eval y = .agg cells)
    (t : TypeId) (old : Array Value) (hg : w.heap[g]? = some (.cells old t (0, 0))) (hi : (P.info? ty).map (·.size) = some cells.size)
    (hold : old.size = cells.size) (h1 : cells.all (·.oneCell') = true) (hh : K (a.put o.dst undef) (w.setRow g cells)) :
    if Region.wanted o (yielded ops a.tmps) = true then Oper.wp P o a w K Q else E := by
  have hw : Region.wanted o (yielded ops a.tmps) = true := by simp [Region.wanted, hgd]
  rw [if_pos hw]
  exact wp_store_row ty x y ho g cells hx hy t old hg hi hold h1 hh
theorem step_built10 {P : Program} {w : World} {ops : Array Oper} {o : Oper} {a : Act} {K : Act → World → Prop} {Q : Exit → Act → World → Prop} {E : Prop} (hgd : o.guard = none) (t : TypeId) (parts : Array (Nat × Operand)) (ho : o.op = .build t parts)
    (cells : Array Value) (hb : P.built t (parts.map fun (i, x) => (i, a.eval x)).toList = some cells) (hh : K (a.put o.dst (.agg cells)) w) :
    if Region.wanted o (yielded ops a.tmps) = true then Oper.wp P o a w K Q else E := by
  have hw : Region.wanted o (yielded ops a.tmps) = true := by simp [Region.wanted, hgd]
  rw [if_pos hw]
  exact wp_build t parts ho (by rw [hb]; rfl) (by rw [hb]; exact hh)
/-- what the fields of bytes seem to tell -/
structure Hd.Told (l : Hd.B) (h : Hd.Hdr) : Prop where
  name : h.name = Hd.first (l.take 100)
  pre : h.pre = Hd.first ((l.drop 345).take 155)
  link : h.link = Hd.first ((l.drop 157).take 100)
  typ : l[156]? = some h.typ
  mode : Hd.NumOf ((l.drop 100).take 8) h.mode
  size : Hd.NumOf ((l.drop 124).take 12) h.size
  time : Hd.NumOf ((l.drop 136).take 12) h.time
/-- told of a head's own bytes -/
theorem Hd.told_lay {l : Hd.B} {h k : Hd.Hdr} (t : Hd.Told l h) (g : Hd.Good k) (e : Hd.layB k = l) : h = k := by
  subst e
  have e1 : h.name = k.name := by rw [t.name, Hd.lay_name g, Hd.first_pad 100 g.nname]
  have e2 : h.pre = k.pre := by rw [t.pre, Hd.lay_pre g, Hd.first_pad 155 g.npre]
  have e3 : h.link = k.link := by rw [t.link, Hd.lay_link g, Hd.first_pad 100 g.nlink]
  have e4 : h.typ = k.typ := by have := t.typ; rw [Hd.lay_typ g] at this; exact (Option.some.inj this).symm
  have e5 : h.mode = k.mode := by
    have a := g.mode
    have := t.mode
    rw [Hd.lay_mode g] at this
    have := this k.mode.toNat (by rw [Hd.numB_len]; exact ⟨by omega, .inl (by show _ < 2097152; omega)⟩) (by rw [Hd.numB_len])
    omega
  have e6 : h.size = k.size := by
    have a := g.size
    have := t.size
    rw [Hd.lay_size g] at this
    have := this k.size.toNat (by rw [Hd.numB_len]; exact ⟨by omega, .inl (by show _ < 8589934592; omega)⟩) (by rw [Hd.numB_len])
    omega
  have e7 : h.time = k.time := by
    have a := g.time
    have := t.time
    rw [Hd.lay_time g] at this
    have := this k.time.toNat (by rw [Hd.numB_len]; exact ⟨by omega, .inr (by show _ < 309485009821345068724781056; omega)⟩) (by rw [Hd.numB_len])
    omega
  cases h; cases k
  simp only at e1 e2 e3 e4 e5 e6 e7
  subst e1 e2 e3 e4 e5 e6 e7
  rfl
def Hd.none7 : Array Value := #[.string ⟨#[]⟩, .string ⟨#[]⟩, .int .i64 0, .int .i64 0, .int .i64 0, .int .u8 0, .string ⟨#[]⟩]
theorem zero_head (w : World) : (zeroValue 61).run Tryz.prog w = .ok (.agg Hd.none7) w := by kernel_rfl
theorem Hd.hv_none : Hd.hv Hd.none = Hd.none7 := rfl
theorem info_head (h : Hd.Hdr) : (Tryz.prog.info? 61).map (·.size) = some (Hd.hv h).size := by unfold Hd.hv; kernel_rfl
theorem Hd.hv_size (h k : Hd.Hdr) : (Hd.hv h).size = (Hd.hv k).size := rfl
theorem Hd.hv_one (h : Hd.Hdr) : (Hd.hv h).all (·.oneCell') = true := by simp [Hd.hv, Value.oneCell']
set_option maxRecDepth 100000 in
set_option maxHeartbeats 8000000 in
theorem htold_any (l : Hd.B) (hl : l.length = 512) (w : World) : Calls Tryz.prog 42 #[.agg (Hd.arr l)] w fun e w' => (∃ h, e = .returned (.agg (Hd.hv h)) ∧ Hd.Told l h) ∧ Bw w w' := by
  have hz := zero_head
  obtain ⟨Z, hZ⟩ : ∃ Z, Hid (Z = Hd.none7) := ⟨_, rfl⟩
  rw [← hZ.out] at hz
  obtain ⟨W, hW⟩ : ∃ W, W = (w.alloc (.cells (Hd.arr l) 84)).alloc (.cells Z 61) := ⟨_, rfl⟩
  have hA0 : ArrAt W w.heap.size l := by rw [hW]; exact heap_alloc2_old _ _ _
  have hB0 : W.heap[w.heap.size + 1]? = some (.cells Z 61 (0, 0)) := by rw [hW]; exact heap_alloc2_new _ _ _
  have hbw : Bw w W := by rw [hW]; exact bw_alloc2 _ _ _
  obtain ⟨c, hc⟩ : ∃ c : UInt8, Hid (l[156]? = some c) := ⟨l[156], by show _ = _; exact List.getElem?_eq_getElem (by omega)⟩
  have hc0 : W.cell? ⟨w.heap.size, 156, none⟩ = some (.int .u8 ((c.toNat : Nat) : Int)) := by rw [(hA0.cell (c := 156) (by omega)).1, Hd.rowF_at hc.out]
  have hl' : Hid (l.length = 512) := hl
  have HA : Hid (∀ V, Bw W V → ∀ o n, o + n ≤ 512 → RowAt V (some ⟨w.heap.size, o, none⟩) n (Hd.rowF ((l.drop o).take n)) ∧ ((l.drop o).take n).length = n) := fun V h o n hn => ⟨(hA0.keep h).row o n (by rw [hl'.out]; exact hn), by rw [List.length_take, List.length_drop, hl'.out]; omega⟩
  have HS : Hid (∀ V, Bw W V → V.cell? ⟨w.heap.size, 156, none⟩ = some (.int .u8 ((c.toNat : Nat) : Int))) := fun V h => (h.cell (p := ⟨w.heap.size, 156, none⟩) (block_lt_of_cell hc0)).trans hc0
  go_enter Tryz.func42, Tryz.ntmps42
  go_wp2
  rw [← hW]
  clear hW hz hc0 hA0 hl
  have hdr : Bw W W.drew := (Below.refl _ _).drew
  refine wp_region_held_drew (S := fun w' => w'.cell? ⟨w.heap.size, 156, none⟩ = some (.int .u8 ((c.toNat : Nat) : Int))) (by kernel_rfl) (HS.out _ hdr) (fun hHeld => ?_)
  refine wpAnyH_take (i := 0) (v := ?_) rfl (by kernel_rfl) (by kernel_rfl) (by kernel_rfl) (fun _ _ _ h => h) (Or.inl ⟨by rfl, ?_⟩) (by assumption) ?_
  rotate_left
  · intro w hSw; (try dsimp only at hSw); go_simp; all_goals (with_reducible rfl)
  try simp only [Act.put, List.setIfInBounds_toArray, List.set_cons_zero, List.set_cons_succ, List.getElem_toArray, List.getElem_cons_succ, List.getElem_cons_zero]
  refine wpAnyH_take (i := 2) (v := ?_) rfl (by kernel_rfl) (by kernel_rfl) (by kernel_rfl) (fun _ _ _ h => h) (Or.inl ⟨by rfl, ?_⟩) (by assumption) ?_
  rotate_left
  · intro w hSw; (try dsimp only at hSw); go_simp; all_goals (with_reducible rfl)
  try simp only [Act.put, List.setIfInBounds_toArray, List.set_cons_zero, List.set_cons_succ, List.getElem_toArray, List.getElem_cons_succ, List.getElem_cons_zero]
  refine wpAnyH_take (i := 4) (v := ?_) rfl (by kernel_rfl) (by kernel_rfl) (by kernel_rfl) (fun _ _ _ h => h) (Or.inl ⟨by rfl, ?_⟩) (by assumption) ?_
  rotate_left
  · intro w hSw; (try dsimp only at hSw); go_simp; all_goals (with_reducible rfl)
  try simp only [Act.put, List.setIfInBounds_toArray, List.set_cons_zero, List.set_cons_succ, List.getElem_toArray, List.getElem_cons_succ, List.getElem_cons_zero]
  refine wpAnyH_take (i := 6) (v := ?_) rfl (by kernel_rfl) (by kernel_rfl) (by kernel_rfl) (fun _ _ _ h => h) (Or.inl ⟨by rfl, ?_⟩) (by assumption) ?_
  rotate_left
  · intro w hSw; (try dsimp only at hSw); go_simp; all_goals (with_reducible rfl)
  try simp only [Act.put, List.setIfInBounds_toArray, List.set_cons_zero, List.set_cons_succ, List.getElem_toArray, List.getElem_cons_succ, List.getElem_cons_zero]
  refine wpAnyH_take (i := 8) (v := ?_) rfl (by kernel_rfl) (by kernel_rfl) (by kernel_rfl) (fun _ _ _ h => h) (Or.inl ⟨by rfl, ?_⟩) (by assumption) ?_
  rotate_left
  · intro w hSw; (try dsimp only at hSw); go_simp; all_goals (with_reducible rfl)
  try simp only [Act.put, List.setIfInBounds_toArray, List.set_cons_zero, List.set_cons_succ, List.getElem_toArray, List.getElem_cons_succ, List.getElem_cons_zero]
  refine wpAnyH_take (i := 10) (v := ?_) rfl (by kernel_rfl) (by kernel_rfl) (by kernel_rfl) (fun _ _ _ h => h) (Or.inl ⟨by rfl, ?_⟩) (by assumption) ?_
  rotate_left
  · intro w hSw; (try dsimp only at hSw); go_simp; all_goals (with_reducible rfl)
  try simp only [Act.put, List.setIfInBounds_toArray, List.set_cons_zero, List.set_cons_succ, List.getElem_toArray, List.getElem_cons_succ, List.getElem_cons_zero]
  refine wpAnyH_take (i := 11) (v := ?_) rfl (by kernel_rfl) (by kernel_rfl) (by kernel_rfl) (fun _ _ _ h => h) (Or.inl ⟨by rfl, ?_⟩) (by assumption) ?_
  rotate_left
  · intro w hSw; (try dsimp only at hSw); go_simp; all_goals (with_reducible rfl)
  try simp only [Act.put, List.setIfInBounds_toArray, List.set_cons_zero, List.set_cons_succ, List.getElem_toArray, List.getElem_cons_succ, List.getElem_cons_zero]
  refine wpAnyH_take (i := 12) (v := ?_) rfl (by kernel_rfl) (by kernel_rfl) (by kernel_rfl) (fun _ _ _ h => h) (Or.inl ⟨by rfl, ?_⟩) (by assumption) ?_
  rotate_left
  · intro w hSw; (try dsimp only at hSw); go_simp; all_goals (with_reducible rfl)
  try simp only [Act.put, List.setIfInBounds_toArray, List.set_cons_zero, List.set_cons_succ, List.getElem_toArray, List.getElem_cons_succ, List.getElem_cons_zero]
  refine wpAnyH_ready (rs := [1]) (by kernel_rfl) (by simp) ?_
  refine AllReadyH.cons rfl (fun K hK => ?_) AllReadyH.nil
  go_simp
  refine (htext_any w.heap.size 0 100 _ ((l.drop 0).take 100) (HA.out _ hdr 0 100 (by omega)).2 (by omega) (by omega) _ (HA.out _ hdr 0 100 (by omega)).1).mono ?_
  rintro e w1 ⟨rfl, hw1⟩
  have b1 := hdr.trans hw1
  refine hK.out _ _ (HS.out _ b1) (fun hHeld => ?_)
  clear hK K
  try simp only [Act.put, List.setIfInBounds_toArray, List.set_cons_zero, List.set_cons_succ, List.getElem_toArray, List.getElem_cons_succ, List.getElem_cons_zero]
  refine wpAnyH_ready (rs := [3]) (by kernel_rfl) (by simp) ?_
  refine AllReadyH.cons rfl (fun K hK => ?_) AllReadyH.nil
  go_simp
  refine (htext_any w.heap.size 345 155 _ ((l.drop 345).take 155) (HA.out _ b1 345 155 (by omega)).2 (by omega) (by omega) _ (HA.out _ b1 345 155 (by omega)).1).mono ?_
  rintro e w2 ⟨rfl, hw2⟩
  have b2 := b1.trans hw2
  refine hK.out _ _ (HS.out _ b2) (fun hHeld => ?_)
  clear hK K
  try simp only [Act.put, List.setIfInBounds_toArray, List.set_cons_zero, List.set_cons_succ, List.getElem_toArray, List.getElem_cons_succ, List.getElem_cons_zero]
  refine wpAnyH_ready (rs := [5]) (by kernel_rfl) (by simp) ?_
  refine AllReadyH.cons rfl (fun K hK => ?_) AllReadyH.nil
  go_simp
  refine (hnumber_any _ 8 _ ((l.drop 100).take 8) (HA.out _ b2 100 8 (by omega)).2 (by omega) (by omega) (by omega) _ (HA.out _ b2 100 8 (by omega)).1).mono ?_
  rintro e w3 ⟨⟨z3, rfl, hz3⟩, hw3⟩
  have b3 := b2.trans hw3
  refine hK.out _ _ (HS.out _ b3) (fun hHeld => ?_)
  clear hK K
  try simp only [Act.put, List.setIfInBounds_toArray, List.set_cons_zero, List.set_cons_succ, List.getElem_toArray, List.getElem_cons_succ, List.getElem_cons_zero]
  refine wpAnyH_ready (rs := [7]) (by kernel_rfl) (by simp) ?_
  refine AllReadyH.cons rfl (fun K hK => ?_) AllReadyH.nil
  go_simp
  refine (hnumber_any _ 12 _ ((l.drop 124).take 12) (HA.out _ b3 124 12 (by omega)).2 (by omega) (by omega) (by omega) _ (HA.out _ b3 124 12 (by omega)).1).mono ?_
  rintro e w4 ⟨⟨z4, rfl, hz4⟩, hw4⟩
  have b4 := b3.trans hw4
  refine hK.out _ _ (HS.out _ b4) (fun hHeld => ?_)
  clear hK K
  try simp only [Act.put, List.setIfInBounds_toArray, List.set_cons_zero, List.set_cons_succ, List.getElem_toArray, List.getElem_cons_succ, List.getElem_cons_zero]
  refine wpAnyH_ready (rs := [9]) (by kernel_rfl) (by simp) ?_
  refine AllReadyH.cons rfl (fun K hK => ?_) AllReadyH.nil
  go_simp
  refine (hnumber_any _ 12 _ ((l.drop 136).take 12) (HA.out _ b4 136 12 (by omega)).2 (by omega) (by omega) (by omega) _ (HA.out _ b4 136 12 (by omega)).1).mono ?_
  rintro e w5 ⟨⟨z5, rfl, hz5⟩, hw5⟩
  have b5 := b4.trans hw5
  refine hK.out _ _ (HS.out _ b5) (fun hHeld => ?_)
  clear hK K
  try simp only [Act.put, List.setIfInBounds_toArray, List.set_cons_zero, List.set_cons_succ, List.getElem_toArray, List.getElem_cons_succ, List.getElem_cons_zero]
  refine wpAnyH_ready (rs := [13]) (by kernel_rfl) (by simp) ?_
  refine AllReadyH.cons rfl (fun K hK => ?_) AllReadyH.nil
  go_simp
  refine (htext_any w.heap.size 157 100 _ ((l.drop 157).take 100) (HA.out _ b5 157 100 (by omega)).2 (by omega) (by omega) _ (HA.out _ b5 157 100 (by omega)).1).mono ?_
  rintro e w6 ⟨rfl, hw6⟩
  have b6 := b5.trans hw6
  refine hK.out _ _ (HS.out _ b6) (fun hHeld => ?_)
  clear hK K
  try simp only [Act.put, List.setIfInBounds_toArray, List.set_cons_zero, List.set_cons_succ, List.getElem_toArray, List.getElem_cons_succ, List.getElem_cons_zero]
  have hB6 : w6.heap[w.heap.size + 1]? = some (.cells Z 61 (0, 0)) := (b6.block _ (Array.getElem?_eq_some_iff.1 hB0).1).trans hB0
  obtain ⟨h, hh, hT⟩ : ∃ h : Hd.Hdr, Hid (Hd.hv h = #[.string (Hd.S (Hd.first ((l.drop 0).take 100))), .string (Hd.S (Hd.first ((l.drop 345).take 155))), .int .i64 z3, .int .i64 z4, .int .i64 z5, .int .u8 ((c.toNat : Nat) : Int), .string (Hd.S (Hd.first ((l.drop 157).take 100)))]) ∧ Hid (Hd.Told l h) :=
    ⟨⟨Hd.first ((l.drop 0).take 100), z3, z4, z5, c, Hd.first ((l.drop 157).take 100), Hd.first ((l.drop 345).take 155)⟩, rfl, ⟨by rw [List.drop_zero], rfl, rfl, hc.out, hz3, hz4, hz5⟩⟩
  refine wpAnyH_ready (rs := [14]) (by kernel_rfl) (by simp) ?_
  refine AllReadyH.cons rfl (fun K hK => ?_) AllReadyH.nil
  refine step_built10 (by rfl) 61 _ (by rfl) (Hd.hv h) (by rw [hh.out]; kernel_rfl) ?_
  refine hK.out _ _ (HS.out _ b6) (fun hHeld => ?_)
  clear hK K
  try simp only [Act.put, List.setIfInBounds_toArray, List.set_cons_zero, List.set_cons_succ, List.getElem_toArray, List.getElem_cons_succ, List.getElem_cons_zero]
  refine wpAnyH_ready (rs := [15]) (by kernel_rfl) (by simp) ?_
  refine AllReadyH.cons rfl (fun K hK => ?_) AllReadyH.nil
  refine step_store_row (by rfl) 61 _ _ (by rfl) (w.heap.size + 1) (Hd.hv h) (by rfl) (by rfl) 61 Z hB6 (info_head h) (by rw [hZ.out]; rfl) (Hd.hv_one h) ?_
  refine hK.out _ _ ((World.cell?_of_block (setRow_other _ (w.heap.size + 1) w.heap.size _ (by omega))).trans (HS.out _ b6)) (fun hHeld => ?_)
  clear hK K
  try simp only [Act.put, List.setIfInBounds_toArray, List.set_cons_zero, List.set_cons_succ, List.getElem_toArray, List.getElem_cons_succ, List.getElem_cons_zero]
  refine wpAnyH_done (by kernel_rfl) ?_ _
  go_wp2
  exact bodyPost_ret (results_cell_row Tryz.results42 _ _ (w.heap.size + 1) 61 (Hd.hv h) (0, 0) _ rfl (setRow_heap _ (w.heap.size + 1) _ _ _ _ hB6) Tryz.underlying61 rfl (info_head h)) rfl ⟨⟨h, rfl, hT.out⟩, bw_of_bx (hbw.trans b6) (bx_set _ (w.heap.size + 1) _ rfl) (fun k e => by omega)⟩
end Go.Proofs.YtldkhbkgmiicbaaGreatDoor

/- The program's own Blank, Put and Full, as landed at e169a841. -/
namespace Go.Proofs.YtldkhbkgmiicbaaGreatDoor
open Go.RowKit Go.Deep
set_option linter.unusedVariables false
set_option linter.unusedSimpArgs false

theorem wpList_load_g10 {P : Program} {ops : Array Oper} {rest : List Oper} {o : Oper} {a : Act} {w : World} {Q : Exit → Act → World → Prop} (hgd : Region.wanted o (yielded ops a.tmps) = true) (ty : TypeId) (x : Operand) (ho : o.op = .load ty x)
    (g : Nat) (hx : a.eval x = .pointer (some ⟨g, 0, none⟩)) (t : TypeId) (cs : Array Value) (fr : Nat × Nat) (d : TypeDesc) (hg : w.heap[g]? = some (.cells cs t fr))
    (hu : P.underlying ty = some d) (hd : (match d with | .struct _ | .array _ _ => true | _ => false) = true) (hi : (P.info? ty).map (·.size) = some cs.size)
    (h : wpList P ops Q rest (a.put o.dst (.agg cs)) w) : wpList P ops Q (o :: rest) a w :=
  wpList_step fun _ hK => by rw [if_pos hgd]; exact wp_load_row ty x ho g hx t cs fr d hg hu hd hi (hK _ _ h)
theorem wpList_built_g10 {P : Program} {ops : Array Oper} {rest : List Oper} {o : Oper} {a : Act} {w : World} {Q : Exit → Act → World → Prop} (hgd : Region.wanted o (yielded ops a.tmps) = true) (t : TypeId) (parts : Array (Nat × Operand)) (ho : o.op = .build t parts)
    (cells : Array Value) (hb : P.built t (parts.map fun (i, x) => (i, a.eval x)).toList = some cells)
    (h : wpList P ops Q rest (a.put o.dst (.agg cells)) w) : wpList P ops Q (o :: rest) a w :=
  wpList_step fun _ hK => by rw [if_pos hgd]; exact wp_build t parts ho (by rw [hb]; rfl) (by rw [hb]; exact hK _ _ h)
/-- a head's struct in a block -/
def HeadAt (w : World) (g : Nat) (h : Hd.Hdr) : Prop := w.heap[g]? = some (.cells (Hd.hv h) 61 (0, 0))
theorem HeadAt.keep {w w' : World} {g : Nat} {h : Hd.Hdr} (a : HeadAt w g h) (b : Bw w w') : HeadAt w' g h := (b.block g (Array.getElem?_eq_some_iff.1 a).1).trans a
set_option maxRecDepth 100000 in
theorem hPut_any (h : Hd.Hdr) (w : World) : Calls Tryz.prog 87 #[.agg (Hd.hv h)] w fun e w' =>
    (Hd.may h ≠ 0 → e = .returned (.tuple #[.slice none 0 0, .int .i64 ((Hd.may h : Nat) : Int)])) ∧ (Hd.may h = 0 → ∃ g, e = .returned (.tuple #[.slice (some ⟨g, 0, none⟩) 512 512, .int .i64 0]) ∧ NewArr w w' g (Hd.layB h)) ∧ Bw w w' := by
  have hz := zero_raw
  have hzs : Hid ((Hd.arr Hd.zeros).size = 512) := by show _ = _; rw [Hd.arr_size, zeros_len]
  obtain ⟨Z, hZ⟩ : ∃ Z, Hid (Z = Hd.arr Hd.zeros) := ⟨_, rfl⟩
  rw [← hZ.out] at hz hzs
  have hih := info_head h
  obtain ⟨W1, hW1⟩ : ∃ V, V = w.alloc (.cells (Hd.hv h) 61) := ⟨_, rfl⟩
  have hH1 : HeadAt W1 w.heap.size h := by rw [hW1]; exact heap_alloc_new _ _
  have hb1 : Bw w W1 := by rw [hW1]; exact bw_alloc7 (Bw.refl _) _
  obtain ⟨M, hM⟩ : ∃ M, Hid (M = Hd.may h) := ⟨_, rfl⟩
  rw [← hM.out]
  by_cases hm : M = 0
  · have g := Hd.may_good (h := h) (by rw [← hM.out]; exact hm)
    have HG : Hid (Hd.Good h) := g
    have hl := Hd.lay_len g
    have HL : Hid ((Hd.layB h).length = 512) := hl
    have hi := info_raw hl
    have HS : Hid (Z.size = (Hd.arr (Hd.layB h)).size) := by show _ = _; rw [hzs.out, Hd.arr_size, HL.out]
    subst hm
    clear g hl
    go_enter Tryz.func87, Tryz.ntmps87
    go_wp2_with (first
      | (rw [← hW1]; clear hW1; refine wpList_load_row rfl 61 _ rfl w.heap.size rfl 61 (Hd.hv h) (0, 0) _ hH1 Tryz.underlying61 rfl hih ?_)
      | (go_at_call 43; refine (hmay_any h _).mono ?_; rintro e w1 ⟨rfl, hw1⟩; rw [← hM.out]; have hH2 := hH1.keep hw1)
      | (refine wpList_load_row rfl 61 _ rfl w.heap.size rfl 61 (Hd.hv h) (0, 0) _ hH2 Tryz.underlying61 rfl hih ?_)
      | (go_at_call 44; refine (hlaid_any h HG.out _).mono ?_; rintro e w2 ⟨rfl, hw2⟩)
      | (refine wpList_store_row rfl 84 _ _ rfl w2.heap.size (Hd.arr (Hd.layB h)) rfl rfl 84 Z (heap_alloc_new _ _) hi HS.out (Hd.arr_one _) ?_; rw [setRow_alloc_new]))
    go_ret2
    have hb2 := (hb1.trans hw1).trans hw2
    exact ⟨fun h => absurd rfl h, fun _ => ⟨w2.heap.size, rfl, arr_new _ _, hb2.size⟩, bw_alloc7 hb2 _⟩
  · have HM : Hid (M ≠ 0) := hm
    have e1 : ((M : Int) != 0) = true := by rw [bne_iff_ne]; omega
    clear hm
    go_enter Tryz.func87, Tryz.ntmps87
    go_wp2_with (first
      | (rw [← hW1]; clear hW1; refine wpList_load_row rfl 61 _ rfl w.heap.size rfl 61 (Hd.hv h) (0, 0) _ hH1 Tryz.underlying61 rfl hih ?_)
      | (go_at_call 43; refine (hmay_any h _).mono ?_; rintro e w1 ⟨rfl, hw1⟩; rw [← hM.out]))
    go_ret2
    exact ⟨fun _ => rfl, fun h => absurd h HM.out, hb1.trans hw1⟩
/-- the whole path -/
def Hd.full (n p : ByteArray) : ByteArray := if p.toList == [] then n else p ++ ⟨#[47]⟩ ++ n
set_option maxRecDepth 100000 in
theorem hFull_any (n p k : ByteArray) (mode size time c : Int) (hs : p.size + 1 + n.size ≤ 9223372036854775807) (w : World) :
    Calls Tryz.prog 26 #[.agg #[.string n, .string p, .int .i64 mode, .int .i64 size, .int .i64 time, .int .u8 c, .string k]] w fun e w' => e = .returned (.string (Hd.full n p)) ∧ Bw w w' := by
  unfold Hd.full
  have s1 : ¬ 9223372036854775807 < p.size + 1 := by omega
  have s2 : ¬ 9223372036854775807 < p.size + 1 + n.size := by omega
  cases hp : p.toList == [] with
  | true =>
    go_enter Tryz.func26, Tryz.ntmps26
    go_wp2
    go_ret
    exact ⟨rfl, bw_alloc7 (Bw.refl _) _⟩
  | false =>
    go_enter Tryz.func26, Tryz.ntmps26
    go_wp2
    go_ret
    exact ⟨rfl, bw_alloc7 (Bw.refl _) _⟩
end Go.Proofs.YtldkhbkgmiicbaaGreatDoor
