/- The program's own text and number, as landed at e169a841. -/
import Derived.Test.YtkoacehgfmflmabJ3
import Derived.Test.YtkoacehgfmflmabBM
namespace Go.Proofs.Ytkoacehgfmflmab
open Go.RowKit Go.Deep
set_option linter.unusedVariables false
set_option linter.unusedSimpArgs false

theorem Hd.bytesOf_row (s : Hd.B) : Lib.bytesOf (s.map fun c => (c.toNat : Int)) = s := by
  unfold Lib.bytesOf
  rw [List.map_map]
  conv => rhs; rw [← List.map_id s]
  apply List.map_congr_left
  intro c _
  show UInt8.ofNat ((c.toNat : Int)).toNat = c
  simp
theorem row_congr10 {w : World} {A : Option Addr} {L : Nat} {f g : Nat → Int} (h : RowAt w A L f) (hg : ∀ i, 0 ≤ g i ∧ g i < 256) (e : ∀ i, i < L → g i = f i) : RowAt w A L g := by
  refine ⟨?_, hg⟩
  rcases h.1 with h0 | ⟨b, off, hA, hc⟩
  · exact Or.inl h0
  · exact Or.inr ⟨b, off, hA, fun i hi => by rw [hc i hi, e i hi]⟩
/-- bytes.Cut at a nought -/
theorem hcut_any (g o c1 g2 : Nat) (s : Hd.B) (hn : s.length ≤ 4611686018427387904) (hcap : s.length ≤ c1) (w : World) (hr : RowAt w (some ⟨g, o, none⟩) s.length (Hd.rowF s)) (hc2 : w.cell? ⟨g2, 0, none⟩ = some (.int .u8 0)) :
    Calls Try.prog 28 #[.slice (some ⟨g, o, none⟩) s.length c1, .slice (some ⟨g2, 0, none⟩) 1 1] w fun e w' => e = .returned (Lib.cutV (some ⟨g, o, none⟩) s.length c1 1 (Lib.indexByte s 0)) ∧ Bw w w' := by
  have hl : ((s.map fun c => (c.toNat : Int))).length = s.length := List.length_map _
  refine (Any.bytes_Cut_of (ρ := sx4_ren) sx4 (some ⟨g, o, none⟩) (some ⟨g2, 0, none⟩) s.length c1 1 1 _ w hcap (Lib.indexByte_ge _ _) (fun h => ?_) hn ?_).mono fun e w' ⟨h1, q, h2⟩ => ⟨h1, by rw [h2]; exact Bw.drewN _ _⟩
  · obtain ⟨j, hj⟩ : ∃ j : Nat, Lib.indexByte s 0 = j := ⟨(Lib.indexByte s 0).toNat, by omega⟩
    have := (List.getElem?_eq_some_iff.1 (Lib.indexByte_some hj).1).1
    omega
  · have := Any.bytes_Index_one (ρ := sx4_ren.viaSlbt) sx4.index g o s.length c1 g2 0 1 (s.map fun c => (c.toNat : Int)) 0 w hl (fun i hi => by
      obtain ⟨b, off, e, hc⟩ := hr.at hi
      cases e
      rw [hc i hi, Hd.rowF_at (List.getElem?_eq_getElem hi), List.getD_eq_getElem?_getD, List.getElem?_map, List.getElem?_eq_getElem hi]; rfl) hc2
    rw [Hd.bytesOf_row] at this
    exact this.mono fun e w' ⟨h1, h2⟩ => ⟨h1, 0, h2⟩
theorem Hd.first_all {l : Hd.B} (h : Lib.indexByte l 0 = -1) : Hd.first l = l := by
  have h2 : ∀ c ∈ l, (c != 0) = true := fun c hc => by
    obtain ⟨k, hk⟩ := List.getElem?_of_mem hc
    rw [bne_iff_ne]
    intro e
    rw [e] at hk
    exact Lib.indexByte_none h k hk
  have := List.takeWhile_append_of_pos (p := fun c : UInt8 => c != 0) (l₂ := []) h2
  rw [List.append_nil, List.takeWhile_nil, List.append_nil] at this
  exact this
theorem Hd.first_to {l : Hd.B} {j : Nat} (h : Lib.indexByte l 0 = j) : Hd.first l = l.take j ∧ j < l.length := by
  obtain ⟨h1, h2⟩ := Lib.indexByte_some h
  have hj := (List.getElem?_eq_some_iff.1 h1).1
  refine ⟨?_, hj⟩
  have h3 : ∀ c ∈ l.take j, (c != 0) = true := fun c hc => by
    obtain ⟨k, hk⟩ := List.getElem?_of_mem hc
    have hk' := (List.getElem?_eq_some_iff.1 hk).1
    rw [List.length_take] at hk'
    rw [List.getElem?_take, if_pos (by omega)] at hk
    rw [bne_iff_ne]
    intro e
    rw [e] at hk
    exact h2 k (by omega) hk
  have h4 : l.drop j = 0 :: l.drop (j + 1) := by
    rw [List.drop_eq_getElem_cons hj]
    congr 1
    rw [List.getElem?_eq_getElem hj] at h1
    exact Option.some.inj h1
  have := List.takeWhile_append_of_pos (p := fun c : UInt8 => c != 0) (l₂ := l.drop j) h3
  rw [List.take_append_drop, h4, List.takeWhile_cons_of_neg (by decide), List.append_nil] at this
  exact this
theorem Hd.str_take {l : Hd.B} {j : Nat} (h : j ≤ l.length) : str (Hd.rowF l) j = Hd.S (l.take j) := by
  have e : (l.take j).length = j := by rw [List.length_take]; omega
  have := Hd.str_S (l.take j)
  rw [e] at this
  rw [← this]
  unfold str
  congr 1
  apply List.map_congr_left
  intro i hi
  have hi := List.mem_range.1 hi
  rw [Hd.rowF_at (List.getElem?_eq_getElem (show i < l.length by omega)), Hd.rowF_at (show (l.take j)[i]? = some l[i] by rw [List.getElem?_take, if_pos hi, List.getElem?_eq_getElem])]
set_option maxRecDepth 100000 in
set_option maxHeartbeats 2000000 in
theorem htext_any (g o n cap : Nat) (l : Hd.B) (hl : l.length = n) (hn : n ≤ 512) (hcap : n ≤ cap) (w : World) (hr : RowAt w (some ⟨g, o, none⟩) n (Hd.rowF l)) :
    Calls Try.prog 24 #[.slice (some ⟨g, o, none⟩) n cap] w fun e w' => e = .returned (.string (Hd.S (Hd.first l))) ∧ Bw w w' := by
  have HR : Hid (∀ W, Bw w W → RowAt W (some ⟨g, o, none⟩) n (Hd.rowF l)) := fun W h => hr.keep h
  obtain ⟨W1, hW1⟩ : ∃ W, W = w.alloc (.cells #[.int .u8 0] 5) := ⟨_, rfl⟩
  have hb1 : Bw w W1 := by rw [hW1]; exact bw_alloc7 (Bw.refl _) _
  have hc1 : W1.cell? ⟨w.heap.size, 0, none⟩ = some (.int .u8 0) := by rw [hW1]; exact cell_of_row _ _ 0 _ _ _ (heap_alloc_new _ _)
  have HC : Hid (W1.cell? ⟨w.heap.size, 0, none⟩ = some (.int .u8 0)) := hc1
  clear hr hc1
  have hL : Hid (l.length = n) := hl
  clear hl
  have HCut : Hid (∀ W, Bw w W → W.cell? ⟨w.heap.size, 0, none⟩ = some (.int .u8 0) → Calls Try.prog 28 #[.slice (some ⟨g, o, none⟩) n cap, .slice (some ⟨w.heap.size, 0, none⟩) 1 1] W fun e w' => e = .returned (Lib.cutV (some ⟨g, o, none⟩) n cap 1 (Lib.indexByte l 0)) ∧ Bw W w') := fun W h h2 => by
    have := hcut_any g o cap w.heap.size l (by rw [hL.out]; omega) (by rw [hL.out]; exact hcap) W (by rw [hL.out]; exact HR.out W h) h2
    rw [hL.out] at this
    exact this
  by_cases hx : Lib.indexByte l 0 = -1
  · have HX : Hid (Lib.cutV (some ⟨g, o, none⟩) n cap 1 (Lib.indexByte l 0) = .tuple #[.slice (some ⟨g, o, none⟩) n cap, .slice none 0 0, .bool false]) := by show _ = _; rw [hx]; rfl
    have HF : Hid (Hd.S (Hd.first l) = str (Hd.rowF l) n) := by show _ = _; rw [Hd.first_all hx, ← hL.out, Hd.str_S]
    rw [HF.out]
    clear hx
    go_enter Try.func24, Try.ntmps24
    go_wp2_with (first | (refine wpList_lit7 (by rfl) 1 _ rfl [0] rfl (by decide) (by decide) rfl ?_; simp only [List.map_cons, List.map_nil]; rw [← hW1]; clear hW1) | (go_at_call 28; refine (HCut.out _ hb1 HC.out).mono ?_; rintro e w2 ⟨rfl, hw2⟩; rw [HX.out]; have cv := conv_row (C := cap) (HR.out _ (hb1.trans hw2))))
    go_ret
    exact ⟨rfl, hb1.trans hw2⟩
  · obtain ⟨j, hj⟩ : ∃ j : Nat, Lib.indexByte l 0 = j := ⟨(Lib.indexByte l 0).toNat, by have := Lib.indexByte_ge l 0; omega⟩
    obtain ⟨hf1, hf2⟩ := Hd.first_to hj
    rw [hL.out] at hf2
    obtain ⟨V, hV⟩ : ∃ V, Hid (V = Lib.fromV (some ⟨g, o, none⟩) n cap (j + 1)) := ⟨_, rfl⟩
    have HX : Hid (Lib.cutV (some ⟨g, o, none⟩) n cap 1 (Lib.indexByte l 0) = .tuple #[.slice (some ⟨g, o, none⟩) j cap, V, .bool true]) := by show _ = _; rw [hj, hV.out]; rfl
    have HF : Hid (Hd.S (Hd.first l) = str (Hd.rowF l) j) := by show _ = _; rw [hf1, Hd.str_take (by rw [hL.out]; omega)]
    rw [HF.out]
    clear hx hj hf1
    go_enter Try.func24, Try.ntmps24
    go_wp2_with (first | (refine wpList_lit7 (by rfl) 1 _ rfl [0] rfl (by decide) (by decide) rfl ?_; simp only [List.map_cons, List.map_nil]; rw [← hW1]; clear hW1) | (go_at_call 28; refine (HCut.out _ hb1 HC.out).mono ?_; rintro e w2 ⟨rfl, hw2⟩; rw [HX.out]; have cv := conv_row (C := cap) (row_less7 (HR.out _ (hb1.trans hw2)) (m := j) (by omega))))
    go_ret
    exact ⟨rfl, hb1.trans hw2⟩
/-- a number with a form in so many bytes -/
def Hd.Fits (m L : Nat) : Prop := m ≤ 9223372036854775807 ∧ (m < 8 ^ (L - 1) ∨ m < 256 ^ (L - 1))
/-- the number that a field tells, if it is one's form -/
def Hd.NumOf (l : Hd.B) (z : Int) : Prop := ∀ m : Nat, Hd.Fits m l.length → Hd.numB m l.length = l → z = (m : Int)
theorem Hd.numof {l : Hd.B} (h2 : 2 ≤ l.length) {m : Nat} (hf : Hd.Fits m l.length) (h : Hd.numB m l.length = l) : Hd.NumOf l (m : Int) := fun k hk hl => by
  have := Hd.numB_one h2 hf.2 hk.2 (h.trans hl.symm)
  rw [this]
theorem hnumber_any (A : Option Addr) (n ca : Nat) (l : Hd.B) (hl : l.length = n) (h2 : 2 ≤ n) (h12 : n ≤ 12) (hca : n ≤ ca) (w : World) (hr : RowAt w A n (Hd.rowF l)) :
    Calls Try.prog 25 #[.slice A n ca] w fun e w' => (∃ z, e = .returned (.int .i64 z) ∧ Hd.NumOf l z) ∧ Bw w w' := by
  by_cases hex : ∃ m, Hd.Fits m n ∧ Hd.numB m n = l
  · obtain ⟨m, hf, hm⟩ := hex
    have HN : Hid (Hd.NumOf l (m : Int)) := Hd.numof (by omega) (by rw [hl]; exact hf) (by rw [hl]; exact hm)
    have hs := Oct.form_says (n := m) (W := n) h2 h12 hf.2 hf.1
    have hr2 : RowAt w A n (Oct.formF m n) := row_congr10 hr (Oct.formF_bd m n) (fun i hi => by rw [← hm, Hd.rowF_num hi])
    have HI : Hid (IsForm n (Oct.formF m n) ((m : Int)).toNat) := by rw [Int.toNat_natCast]; exact ⟨hf.2, fun _ _ => rfl⟩
    clear hr hm
    go_enter Try.func25, Try.ntmps25
    go_wp2_with (go_at_call 29; refine (oexact_any A n ca (Oct.formF m n) hca _ hr2 _ _ _ hs).mono ?_; rintro e w1 ⟨hx, hw1⟩; obtain rfl := hx.yes rfl HI.out)
    go_ret
    exact ⟨⟨_, rfl, HN.out⟩, hw1⟩
  · have HN : Hid (∀ z, Hd.NumOf l z) := fun z m hf hm => absurd ⟨m, by rw [← hl]; exact hf, by rw [← hl]; exact hm⟩ hex
    obtain ⟨z, a, er, hs⟩ := says_ex n (Hd.rowF l)
    have HX : Hid (∀ e, ExactSays n (Hd.rowF l) z er e → ∃ x y, e = .returned (.tuple #[.int .i64 x, .int .i64 y])) := fun e h => by
      by_cases h0 : er = 0
      · by_cases h1 : IsForm n (Hd.rowF l) z.toNat
        · exact ⟨_, _, h.yes h0 h1⟩
        · exact ⟨_, _, h.no h0 h1⟩
      · exact ⟨_, _, h.bad h0⟩
    clear hex
    go_enter Try.func25, Try.ntmps25
    go_wp2_with (go_at_call 29; refine (oexact_any A n ca (Hd.rowF l) hca _ hr _ _ _ hs).mono ?_; rintro e w1 ⟨hx, hw1⟩; obtain ⟨x, y, rfl⟩ := HX.out _ hx)
    go_ret
    exact ⟨⟨_, rfl, HN.out _⟩, hw1⟩
end Go.Proofs.Ytkoacehgfmflmab
