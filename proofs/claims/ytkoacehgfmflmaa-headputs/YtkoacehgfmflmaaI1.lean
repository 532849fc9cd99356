/- The document's own nul, Sum, text, number and Seal, of layer 10. -/
import Derived.Test.YtkoacehgfmflmaaH4
import Derived.Lib.AppendStr
namespace Go.Proofs.Ytkoacehgfmflmaa
open Go.RowKit Go.Deep
set_option linter.unusedVariables false
set_option linter.unusedSimpArgs false

theorem Hd.nul_at {s : Hd.B} {k : Nat} (h : s[k]? = some 0) : Hd.nul s = true := List.any_eq_true.2 ⟨0, List.mem_of_getElem? h, by decide⟩
theorem Hd.nul_none {s : Hd.B} (h : ∀ (k : Nat) (c : UInt8), s[k]? = some c → c ≠ 0) : Hd.nul s = false := by
  cases hx : Hd.nul s with
  | false => rfl
  | true =>
    obtain ⟨c, hc, he⟩ := List.any_eq_true.1 hx
    obtain ⟨k, hk⟩ := List.getElem?_of_mem hc
    exact absurd (eq_of_beq he) (h k c hk)
theorem Hd.at_text (s : ByteArray) (k : Nat) (h : k < s.size) : s.toList[k]? = some s[k] := by
  rw [ByteArray.toList_eq, Array.getElem?_toList]
  exact Array.getElem?_eq_getElem h
theorem rnul_any (s : ByteArray) (hs : s.size ≤ 4611686018427387904) (w : World) : Calls Try.prog 43 #[.string s] w fun e w' => e = .returned (.bool (Hd.nul s.toList)) ∧ w' = w := by
  obtain ⟨R, hR⟩ : ∃ R, Hid (R = Hd.nul s.toList) := ⟨_, rfl⟩
  rw [← hR.out]
  go_enter Try.func43, Try.ntmps43
  go_wp2
  go_loop [2, 3] (fun r i => ∃ k : Nat, k ≤ s.size ∧ r = .bool false ∧ i = .int .i64 (k : Int) ∧ Hid (∀ j (h : j < s.size), j < k → s[j] ≠ 0)) (fun _ i => s.size - (intOf i).toNat)
  case atStart => exact ⟨0, Nat.zero_le _, rfl, rfl, fun j _ hj => by omega⟩
  case round =>
    obtain ⟨k, hk, rfl, rfl, hall⟩ := hrel
    have k0 : (0 : Int) ≤ (k : Int) := Int.natCast_nonneg _
    by_cases hlt : k < s.size
    · have t1 : (k : Int) < (s.size : Int) := by omega
      by_cases hz : s[k] = 0
      · have e1 : s[k].toNat = 0 := by rw [hz]; rfl
        have HR : Hid (R = true) := by show _ = _; rw [hR.out]; exact Hd.nul_at (k := k) (by rw [Hd.at_text s k hlt, hz])
        clear hz
        go_wp2
        go_ret
        exact ⟨by rw [HR.out]; rfl, rfl⟩
      · have e1 : ¬ s[k].toNat = 0 := fun e => hz (UInt8.toNat_inj.1 e)
        have HZ : Hid (s[k] ≠ 0) := hz
        have hall2 : Hid (∀ j (h : j < s.size), j < k + 1 → s[j] ≠ 0) := fun j h hj => by
          rcases Nat.lt_or_ge j k with h1 | h1
          · exact hall.out j h h1
          · have ejk : j = k := by omega
            subst ejk
            exact HZ.out
        clear hz
        go_wp2
        go_round
        case rel => exact ⟨k + 1, by omega, rfl, by go_num, hall2.out⟩
        case measure => simp [intOf]; omega
    · have t1 : ¬ (k : Int) < (s.size : Int) := by omega
      have HR : Hid (R = false) := by
        show _ = _
        rw [hR.out]
        refine Hd.nul_none (fun j c hj => ?_)
        have hj' := (List.getElem?_eq_some_iff.1 hj).1
        rw [Hd.size_toList] at hj'
        rw [Hd.at_text s j hj'] at hj
        have := hall.out j hj' (by omega)
        rw [← Option.some.inj hj]
        exact this
      go_wp2
      go_ret
      exact ⟨by rw [HR.out]; rfl, rfl⟩
set_option maxHeartbeats 1000000 in
theorem rSum_any (A : Option Addr) (ca : Nat) (l : Hd.B) (hl : l.length = 512) (w : World) (hr : RowAt w A 512 (Hd.rowF l)) :
    Calls Try.prog 23 #[.slice A 512 ca] w fun e w' => e = .returned (.int .i64 ((Hd.sumB l : Nat) : Int)) ∧ w' = w := by
  have HE : Hid (Hd.sumTo l 512 = Hd.sumB l) := Hd.sumTo_all hl
  obtain ⟨b, o, rfl, hc⟩ := hr.at (k := 0) (by omega)
  have HC : Hid (∀ i, i < 512 → w.cell? ⟨b, o + i, none⟩ = some (.int .u8 (Hd.rowF l i))) := hc
  clear hr hc
  go_enter Try.func23, Try.ntmps23
  go_wp2
  go_loop [3, 4] (fun t i => ∃ (k u : Nat), k ≤ 512 ∧ i = .int .i64 (k : Int) ∧ t = .int .i64 (u : Int) ∧ Hid (u = Hd.sumTo l k) ∧ u ≤ 130560) (fun _ i => 512 - (intOf i).toNat)
  case atStart => exact ⟨0, 0, Nat.zero_le _, rfl, rfl, rfl, Nat.zero_le _⟩
  case round =>
    obtain ⟨k, u, hk, rfl, rfl, hu, hub⟩ := hrel
    have k0 : (0 : Int) ≤ (k : Int) := Int.natCast_nonneg _
    by_cases hlt : k < 512
    · have h1 := HC.out k hlt
      obtain ⟨b0, b1⟩ := Hd.rowF_bd l k
      have t1 : (k : Int) < 512 := by omega
      by_cases hm : 148 ≤ k ∧ k < 156
      · have m1 : (148 : Int) ≤ (k : Int) := by omega
        have m2 : (k : Int) < 156 := by omega
        have hs : Hid (u + 32 = Hd.sumTo l (k + 1)) := by show _ = _; rw [hu.out]; unfold Hd.sumTo; rw [if_pos hm]; cases k <;> rfl
        have hs2 := Hd.sumTo_bd l (k + 1)
        rw [← hs.out] at hs2
        go_wp2
        go_round
        case rel => exact ⟨k + 1, u + 32, by omega, by go_num, by go_num, hs.out, by omega⟩
        case measure => simp [intOf]; omega
      · obtain ⟨z, hz⟩ : ∃ z : Nat, Hid (Hd.rowF l k = (z : Int)) := ⟨(Hd.rowF l k).toNat, by show _ = _; omega⟩
        have hs : Hid (u + z = Hd.sumTo l (k + 1)) := by
          show _ = _
          have e : (l.getD k 0).toNat = z := by have := hz.out; unfold Hd.rowF at this; omega
          rw [hu.out]; unfold Hd.sumTo; rw [if_neg hm, e]; cases k <;> rfl
        have hs2 := Hd.sumTo_bd l (k + 1)
        rw [← hs.out] at hs2
        rw [hz.out] at h1 b0 b1
        rcases Nat.lt_or_ge k 148 with hlo | hlo
        · have m1 : ¬ (148 : Int) ≤ (k : Int) := by omega
          go_wp2
          go_round
          case rel => exact ⟨k + 1, u + z, by omega, by go_num, by go_num, hs.out, by omega⟩
          case measure => simp [intOf]; omega
        · have m1 : (148 : Int) ≤ (k : Int) := by omega
          have m2 : ¬ (k : Int) < 156 := by omega
          go_wp2
          go_round
          case rel => exact ⟨k + 1, u + z, by omega, by go_num, by go_num, hs.out, by omega⟩
          case measure => simp [intOf]; omega
    · have ek : k = 512 := by omega
      subst ek
      go_wp2
      go_ret
      exact ⟨ret_int (by rw [hu.out, HE.out]), rfl⟩
/-- a list of bytes of the call's own, made since the block base -/
def GB (w : World) (base : Nat) (v : Value) (L : Hd.B) : Prop := w.ownsRow base 5 1 v L.length (Lib.byteCells L)
theorem GB.keep {w w' : World} {base : Nat} {v : Value} {L : Hd.B} (h : GB w base v L) (b : Bw w w') : GB w' base v L := own_keep h b
theorem GB.lower {w : World} {base b' : Nat} {v : Value} {L : Hd.B} (h : GB w base v L) (hb : b' ≤ base) : GB w b' v L := by
  refine ⟨h.1, ?_⟩
  rcases h.2 with h | ⟨g, cap, cur, hv, hg, hr⟩
  · exact Or.inl h
  · exact Or.inr ⟨g, cap, cur, hv, by omega, hr⟩
theorem GB.row {w : World} {base : Nat} {v : Value} {L : Hd.B} (h : GB w base v L) : ∃ A cap, v = .slice A L.length cap ∧ L.length ≤ cap ∧ cap ≤ maxLen ∧ RowAt w A L.length (Hd.rowF L) ∧ (∀ a, A = some a → base ≤ a.block ∧ a.block < w.heap.size) ∧ (A = none → cap = 0) := by
  have h' := h
  unfold GB at h
  rw [← Hd.cells_row] at h
  obtain ⟨A, cap, hv, h1, h2, h3, h4⟩ := row_of_own (Hd.rowF_bd L) h
  refine ⟨A, cap, hv, h1, h2, h3, h4, fun e => ?_⟩
  subst e
  rcases h'.2 with ⟨e, _⟩ | ⟨g, c, cur, e, _⟩
  · rw [hv] at e; injection e
  · rw [hv] at e; injection e with e1; cases e1
theorem GB.nil (w : World) (base : Nat) : GB w base (.slice none 0 0) [] := World.ownsRow_nil _ _ _ _
theorem str_cells (s : ByteArray) : Lib.strCells s = Lib.byteCells s.toList := by unfold Lib.strCells Lib.byteCells; rw [ByteArray.toList_eq]
theorem byteCells_append (a b : Hd.B) : Lib.byteCells (a ++ b) = Lib.byteCells a ++ Lib.byteCells b := List.map_append
set_option maxHeartbeats 1000000 in
theorem rtext_any (base : Nat) (v : Value) (L : Hd.B) (s : ByteArray) (W : Nat) (hW : W ≤ 512) (hs : s.size ≤ 512) (hL : L.length ≤ 512) (w : World) (hb : base ≤ w.heap.size) (h : GB w base v L) :
    Calls Try.prog 44 #[v, .string s, .int .i64 (W : Int)] w fun e w' => ∃ v', e = .returned v' ∧ GB w' base v' (L ++ Hd.pad s.toList W) ∧ Below base w w' := by
  obtain ⟨i0, hi0, hz0, hz1, hz2⟩ := info_parts info_u8
  have es := Hd.size_toList s
  unfold GB at h
  have HL : Hid (L.length ≤ 512) := hL
  obtain ⟨n, hn⟩ : ∃ n, Hid (L.length = n) := ⟨_, rfl⟩
  rw [hn.out] at h hL
  have s0 : (0 : Int) ≤ (s.size : Int) := Int.natCast_nonneg _
  go_enter Try.func44, Try.ntmps44
  go_wp2_with (at_builtin; refine Lib.wpList_append_own_string _ (by rfl) (.tmp 8) (.tmp 9) _ _ (by rfl) base 5 i0 Try.underlying24 Try.underlying9 hi0 hz0 hz1 hz2 _ _ _ (by rfl) h s (by rfl) (by unfold maxLen; omega) (by omega) hb ?_; intro v1 w1 hown1 hgrow1 _)
  rw [str_cells, ← byteCells_append] at hown1
  have hb1 : Below base w w1 := (Below.refl _ _).grown hgrow1 hb (own_ge h)
  have hs1 : base ≤ w1.heap.size := Nat.le_trans hb hb1.size
  clear h hgrow1
  go_loopw [0, 7] (fun v i wr => ∃ k : Nat, k ≤ W - s.size ∧ i = .int .i64 ((s.size : Int) + (k : Int)) ∧ wr.ownsRow base 5 1 v (n + s.size + k) (Lib.byteCells (L ++ s.toList ++ List.replicate k 0)) ∧ Below base w wr ∧ base ≤ wr.heap.size) (fun _ i _ => W - (intOf i).toNat)
  case atStart => exact ⟨0, Nat.zero_le _, by go_num, by rw [List.replicate_zero, List.append_nil]; exact hown1, hb1, hs1⟩
  case round =>
    obtain ⟨k, hk, rfl, hown, hbw, hsz⟩ := hrel
    have k0 : (0 : Int) ≤ (k : Int) := Int.natCast_nonneg _
    by_cases hlt : s.size + k < W
    · have t1 : (s.size : Int) + (k : Int) < (W : Int) := by omega
      go_wp2_with (at_builtin; refine wpList_append_lies _ (by rfl) (.tmp 18) (.tmp 19) _ (by rfl) base 5 i0 _ 1 1 Try.underlying24 hi0 hz0 hz1 hz2 rfl (by omega) _ _ _ (by rfl) (hown.alloc _) ⟨wr.heap.size, 0, none⟩ 1 1 [.int .u8 0] (by rfl) (by rfl) (World.news_of_block (cs := #[_]) (t := 5) (fr := (0, 0)) (heap_alloc_new wr _)) (by simp [Value.oneCell']) (by omega) (by unfold maxLen; omega) (by omega) (by simp; omega) (wr.heap.size + 1) (by simp) ?_; intro g4 c4 w4 hown4 hgrow4 hat4 hlt4)
      have hb4 : Below base w w4 := bw_grow hgrow4 (Below.alloc hbw hsz _) (by rw [size_alloc]; omega) (hown.alloc _)
      go_roundw
      case rel => exact ⟨k + 1, by omega, by go_num, by
        rw [List.replicate_succ', ← List.append_assoc, byteCells_append]
        exact hown4, hb4, by have := hb4.size; omega⟩
      case measure => simp [intOf]; omega
    · have t1 : ¬ (s.size : Int) + (k : Int) < (W : Int) := by omega
      go_wp2
      go_ret
      have ek : k = W - s.toList.length := by rw [es]; omega
      have hle : (L ++ Hd.pad s.toList W).length = n + s.size + k := by
        unfold Hd.pad
        rw [List.length_append, List.length_append, List.length_replicate, hn.out, es]; omega
      refine ⟨_, rfl, ?_, hbw⟩
      unfold GB
      rw [hle]
      unfold Hd.pad
      rw [← ek, ← List.append_assoc]
      exact hown
theorem rnumber_any10 (base : Nat) (v : Value) (L : Hd.B) (n : Int) (W : Nat) (hn : n ≤ 9223372036854775807) (h2 : 2 ≤ W) (h12 : W ≤ 12) (h0 : 0 ≤ n) (hf : n.toNat < 8 ^ (W - 1) ∨ n.toNat < 256 ^ (W - 1)) (hL : L.length ≤ 512) (w : World) (hb : base ≤ w.heap.size) (h : GB w base v L) :
    Calls Try.prog 37 #[v, .int .i64 n, .int .i64 (W : Int)] w fun e w' => ∃ v', e = .returned v' ∧ GB w' base v' (L ++ Hd.numB n.toNat W) ∧ Below base w w' := by
  obtain ⟨i0, hi0, hz0, hz1, hz2⟩ := info_parts info_u8
  have HF : Hid (n.toNat < 8 ^ (W - 1) ∨ n.toNat < 256 ^ (W - 1)) := hf
  have hw63 : L.length + W ≤ maxLen := by unfold maxLen; omega
  clear hf
  go_enter Try.func37, Try.ntmps37
  go_wp2_with (first
    | (go_at_call 48; refine (rput_any n (W : Int) hn _).mono ?_; rintro e w1 hp; obtain ⟨g, cap, rfl, ho, hg, hcap, hcm⟩ := hp.form (by omega) (by omega) h0 (by rw [Int.toNat_natCast]; exact HF.out); have hw1 := hp.keeps; rw [Int.toNat_natCast] at ho hcap; rw [Int.toNat_natCast]; have hr := ho.row (Oct.formF_bd _ _); have h1 := h.keep hw1; have hb1 := Nat.le_trans hb hw1.size; clear hp ho hcap)
    | (at_builtin; refine wpList_append_rowat _ (by rfl) (.tmp 15) (.tmp 16) _ (by rfl) base 5 i0 _ 1 Try.underlying24 hi0 hz0 hz1 hz2 rfl _ _ _ (by rfl) h1 _ W _ (Oct.formF n.toNat W) (by rfl) hr (fun e => by cases e) hw63 (by omega) hb1 ?_; intro v2 w2 hown2 hgrow2))
  go_ret
  have e1 : cellsU (Oct.formF n.toNat W) W = Lib.byteCells (Hd.numB n.toNat W) := by
    rw [← Hd.cells_row, Hd.numB_len]
    exact List.map_congr_left fun i hi => by rw [Hd.rowF_num (List.mem_range.1 hi)]
  have el : (L ++ Hd.numB n.toNat W).length = L.length + W := by rw [List.length_append, Hd.numB_len]
  refine ⟨v2, rfl, ?_, ((Below.mono hw1 hb).grown hgrow2 hb1 (own_ge h1))⟩
  unfold GB
  rw [el, byteCells_append, ← e1]
  exact hown2
end Go.Proofs.Ytkoacehgfmflmaa
