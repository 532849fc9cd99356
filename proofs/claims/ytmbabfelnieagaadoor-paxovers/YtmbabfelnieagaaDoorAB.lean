/- The document's own one (of tabularyref09): the record that bytes begin with. -/
import Derived.Test.YtmbabfelnieagaaDoorAA
namespace Go.Proofs.YtmbabfelnieagaaDoor
open Go.RowKit Go.Deep
set_option linter.unusedVariables false
set_option linter.unusedSimpArgs false

namespace Px
theorem cut_at (b : B) (lo hi i : Nat) (c : UInt8) (h : ((b.take hi).drop lo)[i]? = some c) : lo + i < hi ∧ b[lo + i]? = some c := by
  rw [List.getElem?_drop, List.getElem?_take] at h
  by_cases hl : lo + i < hi
  · rw [if_pos hl] at h; exact ⟨hl, h⟩
  · rw [if_neg hl] at h; cases h
theorem cut_len (b : B) (lo hi : Nat) (h : hi ≤ b.length) : ((b.take hi).drop lo).length = hi - lo := by
  rw [List.length_drop, List.length_take, Nat.min_eq_left h]
theorem cut_cut (b : B) (lo hi j : Nat) (h : lo + j ≤ hi) : ((b.take hi).drop lo).take j = (b.take (lo + j)).drop lo := by
  rw [List.drop_take, List.take_take, List.drop_take]
  congr 1
  omega
theorem cut_drop (b : B) (lo hi j : Nat) : ((b.take hi).drop lo).drop j = (b.take hi).drop (lo + j) := by rw [List.drop_drop]
end Px
/-- a piece of a row of bytes, as a text -/
theorem conv_cut {u : World} {B off lo hi C : Nat} {b : Px.B} (h : RowAt u (some ⟨B, off, none⟩) b.length (Px.rowF b)) (h2 : hi ≤ b.length) :
    (convert 24 9 (.slice (some ⟨B, off + lo, none⟩) (hi - lo) C)).run Tryd.prog u = .ok (.string (Nm.S ((b.take hi).drop lo))) u := by
  have hl := Px.cut_len b lo hi h2
  rw [← hl]
  refine run_convert_bytes_back _ 24 9 5 ⟨B, off + lo, none⟩ C ((b.take hi).drop lo) Tryd.underlying24 Tryd.underlying5 Tryd.underlying9 ?_
  intro j hj
  obtain ⟨g1, g2⟩ := Px.cut_at b lo hi j _ (List.getElem?_eq_getElem hj)
  obtain ⟨b', o', e, hc⟩ := h.at (k := lo + j) (by omega)
  cases e
  rw [Addr.add_lit]
  show u.cell? ⟨B, off + lo + j, none⟩ = _
  rw [Nat.add_assoc, hc (lo + j) (by omega), Px.rowF_at g2]
namespace Px
theorem long_pos {b : B} (h : (longF b).2 ≠ 0) : 1 ≤ (longF b).1 ∧ (longF b).2 ≤ 4 ∧ (longF b).2 < b.length ∧ (longF b).1 ≤ 9999 := by
  unfold longF at h ⊢
  split at h
  · exact absurd rfl h
  · rename_i hc
    rw [if_neg hc]
    dsimp only
    simp only [not_or] at hc
    obtain ⟨h1, h2, h3, h4⟩ := hc
    have h5 : (b.takeWhile isD).length < b.length := by
      rcases Nat.lt_or_ge (b.takeWhile isD).length b.length with g | g
      · exact g
      · rw [List.getElem?_eq_none g] at h4; simp at h4
    have h6 := val_lt _ (b.takeWhile isD) rfl (takeWhile_all isD b)
    have h7 : 10 ^ (b.takeWhile isD).length ≤ 10 ^ 4 := Nat.pow_le_pow_right (by decide) (by omega)
    refine ⟨?_, by omega, h5, by omega⟩
    have h8 := takeWhile_all isD b
    cases e : b.takeWhile isD with
    | nil => rw [e] at h1; exact absurd rfl h1
    | cons c t =>
      rw [e] at h3 h8
      exact val_pos (h8 c (by simp)) (fun hc => h3 (by rw [hc]; rfl)) _ rfl
theorem one_bad1 {b : B} (h : (longF b).2 = 0 ∨ b.length < (longF b).1 ∨ b[(longF b).1 - 1]? ≠ some 10) : oneF b = (([], []), 0, 90) := by
  unfold oneF
  rw [if_pos h]
theorem one_bad2 {b : B} {n d : Nat} (hl : longF b = (n, d)) (hd : d ≠ 0) (hn : n ≤ b.length) (ht : b[n - 1]? = some 10) (hno : ∀ (i : Nat) (c : UInt8), ((b.take (n - 1)).drop (d + 1))[i]? = some c → c ≠ 61) : oneF b = (([], []), 0, 90) := by
  unfold oneF
  rw [hl, if_neg (by
    rintro (h | h | h)
    · exact hd h
    · exact absurd hn (by omega)
    · exact h ht)]
  dsimp only
  rw [if_pos]
  rw [takeWhile_whole]
  intro c hc
  obtain ⟨i, hi⟩ := List.getElem?_of_mem hc
  rw [bne_iff_ne]
  exact hno i c hi
theorem one_good {b : B} {n d j : Nat} (hl : longF b = (n, d)) (hd : d ≠ 0) (hn : n ≤ b.length) (ht : b[n - 1]? = some 10) (hno : ∀ (i : Nat) (c : UInt8), i < j → ((b.take (n - 1)).drop (d + 1))[i]? = some c → c ≠ 61) (hj : ((b.take (n - 1)).drop (d + 1))[j]? = some 61) :
    oneF b = (let p : Pr := (((b.take (d + 1 + j)).drop (d + 1)), ((b.take (n - 1)).drop (d + 1 + j + 1)));
      if fits p ≠ 0 then (([], []), 0, fits p) else if psize p ≠ n then (([], []), 0, 90) else (p, n, 0)) := by
  obtain ⟨g1, g2⟩ := cut_at _ _ _ _ _ hj
  have hjl : j < ((b.take (n - 1)).drop (d + 1)).length := (List.getElem?_eq_some_iff.1 hj).1
  have htw : ((b.take (n - 1)).drop (d + 1)).takeWhile (fun c => c != 61) = ((b.take (n - 1)).drop (d + 1)).take j := by
    conv => lhs; rw [← List.take_append_drop j ((b.take (n - 1)).drop (d + 1)), List.drop_eq_getElem_cons hjl]
    refine takeWhile_stop _ _ _ _ (fun c hc => ?_) ?_
    · obtain ⟨i, hi⟩ := List.getElem?_of_mem hc
      rw [List.getElem?_take] at hi
      by_cases hij : i < j
      · rw [if_pos hij] at hi
        rw [bne_iff_ne]; exact hno i c hij hi
      · rw [if_neg hij] at hi; cases hi
    · rw [List.getElem?_eq_getElem hjl, Option.some.injEq] at hj
      rw [hj]; rfl
  have hkl : (((b.take (n - 1)).drop (d + 1)).take j).length = j := by rw [List.length_take]; omega
  unfold oneF
  rw [hl, if_neg (by
    rintro (h | h | h)
    · exact hd h
    · exact absurd hn (by omega)
    · exact h ht)]
  dsimp only
  rw [htw, hkl, if_neg (by omega), cut_cut b (d + 1) (n - 1) j (by omega), cut_drop, ← Nat.add_assoc]
end Px
theorem two_cells {u : World} {g : Nat} {a b x y : Value} (h1 : u.cell? ⟨g, 0, none⟩ = some x) (h2 : u.cell? ⟨g, 1, none⟩ = some y) :
    ((u.setCell ⟨g, 0, none⟩ a).setCell ⟨g, 1, none⟩ b).cell? ⟨g, 0, none⟩ = some a ∧ ((u.setCell ⟨g, 0, none⟩ a).setCell ⟨g, 1, none⟩ b).cell? ⟨g, 1, none⟩ = some b := by
  constructor
  · rw [World.cell?_setCell_other _ _ _ _ (by simp), World.cell?_setCell_same' _ _ _ (by rw [h1]; rfl)]
  · rw [World.cell?_setCell_same' _ _ _ (by rw [World.cell?_setCell_other _ _ _ _ (by simp), h2]; rfl)]
/-- what one answers -/
def OneEnds (b : Px.B) (e : Ending) : Prop := e = .returned (.tuple #[.agg #[.string (Nm.S (Px.oneF b).1.1), .string (Nm.S (Px.oneF b).1.2)], .int .i64 ((Px.oneF b).2.1 : Int), .int .i64 ((Px.oneF b).2.2 : Int)])
set_option maxRecDepth 100000 in
set_option maxHeartbeats 1000000 in
theorem rone_any (A : Option Addr) (cap : Nat) (b : Px.B) (hn : b.length ≤ 140737488355328) (hcap : b.length ≤ cap) (w : World) (ha : RowAt w A b.length (Px.rowF b)) :
    Calls Tryd.prog 34 #[.slice A b.length cap] w fun e w' => OneEnds b e ∧ Bw w w' := by
  obtain ⟨N, d, hL⟩ : ∃ a b', Hid (Px.longF b = (a, b')) := ⟨_, _, show Px.longF b = _ from rfl⟩
  have HA : Hid (RowAt w A b.length (Px.rowF b)) := ha
  have hw1 : Bw w (w.alloc (.cells #[.string ⟨#[]⟩, .string ⟨#[]⟩] 23)) := Below.alloc (Below.refl _ _) (Nat.le_refl _) _
  have HE : Hid (Px.oneF b = (([], []), 0, 90) → OneEnds b (.returned (.tuple #[.agg #[.string ⟨#[]⟩, .string ⟨#[]⟩], .int .i64 0, .int .i64 90]))) := fun h => by unfold OneEnds; rw [h]; rfl
  obtain ⟨n, hnn⟩ : ∃ n, Hid (b.length = n) := ⟨_, rfl⟩
  have HLong : Hid (∀ u, RowAt u A b.length (Px.rowF b) → Calls Tryd.prog 45 #[.slice A n cap] u fun e w' => e = .returned (.tuple #[.int .i64 ((Px.longF b).1 : Int), .int .i64 ((Px.longF b).2 : Int)]) ∧ w' = u) := fun u h => by
    have := rlong_any A cap b (by omega) u h
    rw [hnn.out] at this
    exact this
  rw [hnn.out] at hn hcap ⊢
  clear ha
  have N0 : (0 : Int) ≤ (N : Int) := Int.natCast_nonneg _
  by_cases hd : d = 0
  · have hans : Hid _ := HE.out (Px.one_bad1 (.inl (by rw [hL.out]; exact hd)))
    have e0 : ((d : Int) == 0) = true := by rw [beq_iff_eq]; omega
    clear hd
    go_enter Tryd.func34, Tryd.ntmps34
    go_wp2_with (go_at_call 45; refine (HLong.out _ (HA.out.keep hw1)).mono ?_; rintro e w1 ⟨rfl, hw⟩; subst w1; rw [hL.out])
    refine bodyPost_ret (v := .tuple #[.agg #[.string ⟨#[]⟩, .string ⟨#[]⟩], .int .i64 0, .int .i64 90]) (by simp [results, Tryd.f34, go_sem]) rfl ?_
    exact ⟨hans.out, hw1⟩
  · have e0 : ((d : Int) == 0) = false := by rw [beq_eq_false_iff_ne]; omega
    obtain ⟨hN1, hd4, hdn, hN9⟩ := Px.long_pos (b := b) (by rw [hL.out]; exact hd)
    rw [hL.out, hnn.out] at hdn
    rw [hL.out] at hN1 hd4 hN9
    dsimp only at hN1 hd4 hN9 hdn
    by_cases hNn : n < N
    · have hans : Hid _ := HE.out (Px.one_bad1 (.inr (.inl (by rw [hL.out, hnn.out]; exact hNn))))
      have t1 : (n : Int) < (N : Int) := by omega
      go_enter Tryd.func34, Tryd.ntmps34
      go_wp2_with (go_at_call 45; refine (HLong.out _ (HA.out.keep hw1)).mono ?_; rintro e w1 ⟨rfl, hw⟩; subst w1; rw [hL.out])
      refine bodyPost_ret (v := .tuple #[.agg #[.string ⟨#[]⟩, .string ⟨#[]⟩], .int .i64 0, .int .i64 90]) (by simp [results, Tryd.f34, go_sem]) rfl ?_
      exact ⟨hans.out, hw1⟩
    · obtain ⟨c, hc⟩ : ∃ c, Hid (b[N - 1]? = some c) := ⟨_, List.getElem?_eq_getElem (by rw [hnn.out]; omega)⟩
      obtain ⟨B, off, rfl, hcell⟩ := HA.out.at (k := 0) (by rw [hnn.out]; omega)
      have HC : Hid (∀ i c, b[i]? = some c → (w.alloc (.cells #[.string ⟨#[]⟩, .string ⟨#[]⟩] 23)).cell? ⟨B, off + i, none⟩ = some (.int .u8 (c.toNat : Int))) := fun i c h => by
        have hi := (List.getElem?_eq_some_iff.1 h).1
        have := hcell i hi
        rw [Px.rowF_at h] at this
        exact (hw1.cell (p := ⟨B, off + i, none⟩) (block_lt_of_cell this)).trans this
      clear hcell
      obtain ⟨M, hM⟩ : ∃ M, N = M + 1 := ⟨N - 1, by omega⟩
      subst hM
      rw [Nat.add_sub_cancel] at hc
      have q1 := HC.out M c hc.out
      obtain ⟨z, hz⟩ : ∃ z, Hid (c.toNat = z) := ⟨_, rfl⟩
      rw [hz.out] at q1
      have M0 : (0 : Int) ≤ (M : Int) := Int.natCast_nonneg _
      have M1 : (M : Int) < (n : Int) := by omega
      have M2 : ((M + 1 : Nat) : Int) ≤ (n : Int) := by omega
      by_cases h10 : z = 10
      · subst h10
        have ht : Hid (b[M + 1 - 1]? = some 10) := by show _ = _; rw [Nat.add_sub_cancel, hc.out]; congr 1; exact UInt8.toNat_inj.1 (by rw [hz.out]; rfl)
        go_enter Tryd.func34, Tryd.ntmps34
        go_wp2_with (go_at_call 45; refine (HLong.out _ (HA.out.keep hw1)).mono ?_; rintro e w1 ⟨rfl, hw⟩; subst w1; rw [hL.out])
        go_loop [7] (fun i => ∃ s : Nat, d + 1 ≤ s ∧ (s ≤ M ∨ s = d + 1) ∧ i = .int .i64 (s : Int) ∧ Hid (∀ (i : Nat) (c : UInt8), i < s - (d + 1) → ((b.take M).drop (d + 1))[i]? = some c → c ≠ 61)) (fun i => M - (intOf i).toNat)
        case atStart => exact ⟨d + 1, Nat.le_refl _, .inr rfl, by go_num, fun i c hi => by omega⟩
        case round =>
          obtain ⟨s, hs1, hs2, rfl, hno⟩ := hrel
          have s0 : (0 : Int) ≤ (s : Int) := Int.natCast_nonneg _
          by_cases hsM : s < M
          · have sM : (s : Int) < (M : Int) := by omega
            have sn : (s : Int) < (n : Int) := by omega
            obtain ⟨x, hx⟩ : ∃ c, Hid (b[s]? = some c) := ⟨_, List.getElem?_eq_getElem (by rw [hnn.out]; omega)⟩
            have q2 := HC.out s x hx.out
            obtain ⟨y, hy⟩ : ∃ y, Hid (x.toNat = y) := ⟨_, rfl⟩
            rw [hy.out] at q2
            have hbx : Hid (((b.take M).drop (d + 1))[s - (d + 1)]? = some x) := by
              show _ = _
              rw [List.getElem?_drop, List.getElem?_take, show d + 1 + (s - (d + 1)) = s by omega, if_pos hsM, hx.out]
            by_cases h61 : y = 61
            · subst h61
              have hj : Hid (((b.take M).drop (d + 1))[s - (d + 1)]? = some 61) := by show _ = _; rw [hbx.out]; congr 1; exact UInt8.toNat_inj.1 (by rw [hy.out]; rfl)
              have hone := Px.one_good (j := s - (d + 1)) hL.out hd (by rw [hnn.out]; omega) ht.out (by rw [Nat.add_sub_cancel]; exact hno.out) (by rw [Nat.add_sub_cancel]; exact hj.out)
              rw [Nat.add_sub_cancel, show d + 1 + (s - (d + 1)) = s by omega] at hone
              obtain ⟨K, hK⟩ : ∃ K, Hid ((b.take s).drop (d + 1) = K) := ⟨_, rfl⟩
              obtain ⟨V, hV⟩ : ∃ V, Hid ((b.take M).drop (s + 1) = V) := ⟨_, rfl⟩
              rw [hK.out, hV.out] at hone
              have HONE : Hid _ := hone
              clear hone
              have hKl : K.length ≤ n := by rw [← hK.out, List.length_drop, List.length_take, hnn.out]; omega
              have hVl : V.length ≤ n := by rw [← hV.out, List.length_drop, List.length_take, hnn.out]; omega
              have hw2 : Bw w ((w.alloc (.cells #[.string ⟨#[]⟩, .string ⟨#[]⟩] 23)).alloc (.cells #[.string ⟨#[]⟩, .string ⟨#[]⟩] 23)) := hw1.alloc (by simp) _
              have k1 : ∀ C : Nat, (convert 24 9 (.slice (some ⟨B, off + (d + 1), none⟩) (s - (d + 1)) C)).run Tryd.prog (w.alloc (.cells #[.string ⟨#[]⟩, .string ⟨#[]⟩] 23)).drew = .ok (.string (Nm.S K)) (w.alloc (.cells #[.string ⟨#[]⟩, .string ⟨#[]⟩] 23)).drew := fun C => by rw [← hK.out]; exact conv_cut (HA.out.keep (Below.drew hw1)) (by rw [hnn.out]; omega)
              have k2 : ∀ C : Nat, (convert 24 9 (.slice (some ⟨B, off + (d + 1), none⟩) (s - (d + 1)) C)).run Tryd.prog ((w.alloc (.cells #[.string ⟨#[]⟩, .string ⟨#[]⟩] 23)).alloc (.cells #[.string ⟨#[]⟩, .string ⟨#[]⟩] 23)).drew = .ok (.string (Nm.S K)) ((w.alloc (.cells #[.string ⟨#[]⟩, .string ⟨#[]⟩] 23)).alloc (.cells #[.string ⟨#[]⟩, .string ⟨#[]⟩] 23)).drew := fun C => by rw [← hK.out]; exact conv_cut (HA.out.keep (Below.drew hw2)) (by rw [hnn.out]; omega)
              have k3 : ∀ C : Nat, (convert 24 9 (.slice (some ⟨B, off + (s + 1), none⟩) (M - (s + 1)) C)).run Tryd.prog (w.alloc (.cells #[.string ⟨#[]⟩, .string ⟨#[]⟩] 23)).drew = .ok (.string (Nm.S V)) (w.alloc (.cells #[.string ⟨#[]⟩, .string ⟨#[]⟩] 23)).drew := fun C => by rw [← hV.out]; exact conv_cut (HA.out.keep (Below.drew hw1)) (by rw [hnn.out]; omega)
              have k4 : ∀ C : Nat, (convert 24 9 (.slice (some ⟨B, off + (s + 1), none⟩) (M - (s + 1)) C)).run Tryd.prog ((w.alloc (.cells #[.string ⟨#[]⟩, .string ⟨#[]⟩] 23)).alloc (.cells #[.string ⟨#[]⟩, .string ⟨#[]⟩] 23)).drew = .ok (.string (Nm.S V)) ((w.alloc (.cells #[.string ⟨#[]⟩, .string ⟨#[]⟩] 23)).alloc (.cells #[.string ⟨#[]⟩, .string ⟨#[]⟩] 23)).drew := fun C => by rw [← hV.out]; exact conv_cut (HA.out.keep (Below.drew hw2)) (by rw [hnn.out]; omega)
              go_wp2
              have u1 : (0 : Int) ≤ (d : Int) + 1 := by omega
              have u2 : (d : Int) + 1 ≤ (s : Int) := by omega
              have u3 : (s : Int) ≤ (cap : Int) := by omega
              have u4 : (0 : Int) ≤ (s : Int) + 1 := by omega
              have u5 : (s : Int) + 1 ≤ (M : Int) := by omega
              have u6 : (M : Int) ≤ (cap : Int) := by omega
              clear q1 q2
              obtain ⟨W2, hW2⟩ : ∃ W2, Hid (W2 = ((w.alloc (.cells #[.string ⟨#[]⟩, .string ⟨#[]⟩] 23)).alloc (.cells #[.string (Nm.S K), .string (Nm.S V)] 23)).drew) := ⟨_, rfl⟩
              have hB2 : Hid (Bw w W2) := by rw [hW2.out]; exact Below.drew (hw1.alloc (by simp) _)
              have hb0 : Hid (W2.heap[w.heap.size]? = some (.cells #[.string ⟨#[]⟩, .string ⟨#[]⟩] 23)) := by
                show _ = _
                rw [hW2.out]
                show ((w.alloc (.cells #[.string ⟨#[]⟩, .string ⟨#[]⟩] 23)).alloc _).heap[w.heap.size]? = _
                rw [Below.heap_alloc _ _ _ (by simp)]
                exact World.alloc_heap_new w _
              have hb1 : Hid (W2.heap[w.heap.size + 1]? = some (.cells #[.string (Nm.S K), .string (Nm.S V)] 23 (0, 0))) := by
                show _ = _
                rw [hW2.out]
                have := World.alloc_heap_new (w.alloc (.cells #[.string ⟨#[]⟩, .string ⟨#[]⟩] 23)) (.cells #[.string (Nm.S K), .string (Nm.S V)] 23)
                rw [World.size_alloc] at this
                exact this
              have hs1 : (Nm.S K).size ≤ 140737488355328 := by rw [Nm.size_S]; omega
              have hs2 : (Nm.S V).size ≤ 140737488355328 := by rw [Nm.size_S]; omega
              have hpp : Hid (((Nm.S K).toList, (Nm.S V).toList) = (K, V)) := by show _ = _; rw [Nm.toList_S, Nm.toList_S]
              obtain ⟨F, hF⟩ : ∃ F, Hid (Px.fits (K, V) = F) := ⟨_, rfl⟩
              obtain ⟨Z, hZ⟩ : ∃ Z, Hid (Px.psize (K, V) = Z) := ⟨_, rfl⟩
              have hFb : F ≤ 100 := by have := Px.fits_vals (K, V); rw [hF.out] at this; omega
              have HP : Hid (∀ W3, Bw W2 W3 → (W3.cell? ⟨w.heap.size + 1, 0, none⟩ = some (.string (Nm.S K)) ∧ W3.cell? ⟨w.heap.size + 1, 1, none⟩ = some (.string (Nm.S V))) ∧ (W3.cell? ⟨w.heap.size, 0, none⟩ = some (.string ⟨#[]⟩) ∧ W3.cell? ⟨w.heap.size, 1, none⟩ = some (.string ⟨#[]⟩)) ∧ (W3.frozen? ⟨w.heap.size, 0, none⟩ = false ∧ W3.frozen? ⟨w.heap.size, 1, none⟩ = false)) := fun W3 h => by
                have g0 := (h.block _ (Array.getElem?_eq_some_iff.1 hb0.out).1).trans hb0.out
                have g1 := (h.block _ (Array.getElem?_eq_some_iff.1 hb1.out).1).trans hb1.out
                exact ⟨⟨cell_of_row W3 _ 0 _ _ _ g1, cell_of_row W3 _ 1 _ _ _ g1⟩, ⟨cell_of_row W3 _ 0 _ _ _ g0, cell_of_row W3 _ 1 _ _ _ g0⟩, by simp [World.frozen?, g0], by simp [World.frozen?, g0]⟩
              go_region
              all_goals rw [← hW2.out]
              all_goals (obtain ⟨⟨p1, p2⟩, ⟨p3, p4⟩, p5, p6⟩ := HP.out W2 (Bw.refl _))
              all_goals (
                by_cases h0 : F = 0
                · subst h0
                  by_cases h1 : Z = M + 1
                  · have hans : Hid (OneEnds b (.returned (.tuple #[.agg #[.string (Nm.S K), .string (Nm.S V)], .int .i64 ((M : Int) + 1), .int .i64 0]))) := by
                      unfold OneEnds
                      rw [HONE.out, if_neg (by rw [hF.out]; simp), if_neg (by rw [hZ.out, h1]; simp)]
                      rfl
                    have e1 : ((Z : Int) != (M : Int) + 1) = false := by rw [bne_eq_false_iff_eq]; omega
                    clear h1
                    go_wp2_with (first | (go_at_call 26; refine (rfits_any (Nm.S K) (Nm.S V) hs1 hs2 _).mono ?_; rintro e w3 ⟨rfl, hw3⟩; rw [hpp.out, hF.out]; obtain ⟨⟨o1, o2⟩, ⟨o3, o4⟩, o5, o6⟩ := HP.out w3 hw3; clear p1 p2 p3 p4 p5 p6) | (go_at_call 11; refine (rsize_any (Nm.S K) (Nm.S V) hs1 hs2 _).mono ?_; rintro e w4 ⟨rfl, hw4⟩; rw [hpp.out, hZ.out]; obtain ⟨⟨x1, x2⟩, ⟨x3, x4⟩, x5, x6⟩ := HP.out w4 (hw3.trans hw4); clear o1 o2 o3 o4 o5 o6))
                    obtain ⟨r1, r2⟩ := two_cells (a := .string (Nm.S K)) (b := .string (Nm.S V)) x3 x4
                    refine bodyPost_ret (v := .tuple #[.agg #[.string (Nm.S K), .string (Nm.S V)], .int .i64 ((M : Int) + 1), .int .i64 0]) (by simp [results, Tryd.f34, go_sem, r1, r2]) rfl ?_
                    exact ⟨hans.out, (((hB2.out.trans hw3).trans hw4).setCell (p := ⟨w.heap.size, 0, none⟩) (Nat.le_refl _) _).setCell (p := ⟨w.heap.size, 1, none⟩) (Nat.le_refl _) _⟩
                  · have hans : Hid _ := HE.out (by rw [HONE.out, if_neg (by rw [hF.out]; simp), if_pos (by rw [hZ.out]; exact h1)])
                    have e1 : ((Z : Int) != (M : Int) + 1) = true := by rw [bne_iff_ne]; omega
                    clear h1
                    go_wp2_with (first | (go_at_call 26; refine (rfits_any (Nm.S K) (Nm.S V) hs1 hs2 _).mono ?_; rintro e w3 ⟨rfl, hw3⟩; rw [hpp.out, hF.out]; obtain ⟨⟨o1, o2⟩, ⟨o3, o4⟩, o5, o6⟩ := HP.out w3 hw3; clear p1 p2 p3 p4 p5 p6) | (go_at_call 11; refine (rsize_any (Nm.S K) (Nm.S V) hs1 hs2 _).mono ?_; rintro e w4 ⟨rfl, hw4⟩; rw [hpp.out, hZ.out]; obtain ⟨⟨x1, x2⟩, ⟨x3, x4⟩, x5, x6⟩ := HP.out w4 (hw3.trans hw4); clear o1 o2 o3 o4 o5 o6))
                    obtain ⟨r1, r2⟩ := two_cells (a := .string ⟨#[]⟩) (b := .string ⟨#[]⟩) x3 x4
                    refine bodyPost_ret (v := .tuple #[.agg #[.string ⟨#[]⟩, .string ⟨#[]⟩], .int .i64 0, .int .i64 90]) (by simp [results, Tryd.f34, go_sem, r1, r2]) rfl ?_
                    exact ⟨hans.out, (((hB2.out.trans hw3).trans hw4).setCell (p := ⟨w.heap.size, 0, none⟩) (Nat.le_refl _) _).setCell (p := ⟨w.heap.size, 1, none⟩) (Nat.le_refl _) _⟩
                · have hans : Hid (OneEnds b (.returned (.tuple #[.agg #[.string ⟨#[]⟩, .string ⟨#[]⟩], .int .i64 0, .int .i64 (F : Int)]))) := by
                    unfold OneEnds
                    rw [HONE.out, if_pos (by rw [hF.out]; exact h0), hF.out]
                    rfl
                  have e1 : ((F : Int) != 0) = true := by rw [bne_iff_ne]; omega
                  clear h0
                  go_wp2_with (go_at_call 26; refine (rfits_any (Nm.S K) (Nm.S V) hs1 hs2 _).mono ?_; rintro e w3 ⟨rfl, hw3⟩; rw [hpp.out, hF.out]; obtain ⟨⟨o1, o2⟩, ⟨o3, o4⟩, o5, o6⟩ := HP.out w3 hw3; clear p1 p2 p3 p4 p5 p6)
                  obtain ⟨r1, r2⟩ := two_cells (a := .string ⟨#[]⟩) (b := .string ⟨#[]⟩) o3 o4
                  refine bodyPost_ret (v := .tuple #[.agg #[.string ⟨#[]⟩, .string ⟨#[]⟩], .int .i64 0, .int .i64 (F : Int)]) (by simp [results, Tryd.f34, go_sem, r1, r2]) rfl ?_
                  exact ⟨hans.out, ((hB2.out.trans hw3).setCell (p := ⟨w.heap.size, 0, none⟩) (Nat.le_refl _) _).setCell (p := ⟨w.heap.size, 1, none⟩) (Nat.le_refl _) _⟩)
            · have e61 : ((y : Int) != 61) = true := by rw [bne_iff_ne]; omega
              have hno2 : Hid (∀ (i : Nat) (c : UInt8), i < s + 1 - (d + 1) → ((b.take M).drop (d + 1))[i]? = some c → c ≠ 61) := fun i c hi hc => by
                rcases Nat.lt_or_ge i (s - (d + 1)) with h | h
                · exact hno.out i c h hc
                · rw [show i = s - (d + 1) by omega, hbx.out, Option.some.injEq] at hc
                  rw [← hc]
                  intro e
                  exact h61 (by rw [← hy.out, e]; rfl)
              go_wp2
              go_round
              case rel => exact ⟨s + 1, by omega, by omega, by go_num, hno2⟩
              case measure => simp [intOf]; omega
          · have sM : (M : Int) ≤ (s : Int) := by omega
            have hans : Hid _ := HE.out (Px.one_bad2 hL.out hd (by rw [hnn.out]; omega) ht.out (fun i c hc => by
              rw [Nat.add_sub_cancel] at hc
              obtain ⟨g1, g2⟩ := Px.cut_at _ _ _ _ _ hc
              exact hno.out i c (by omega) hc))
            go_wp2
            refine bodyPost_ret (v := .tuple #[.agg #[.string ⟨#[]⟩, .string ⟨#[]⟩], .int .i64 0, .int .i64 90]) (by simp [results, Tryd.f34, go_sem]) rfl ?_
            exact ⟨hans.out, hw1⟩
      · have e10 : ((z : Int) != 10) = true := by rw [bne_iff_ne]; omega
        have hans : Hid _ := HE.out (Px.one_bad1 (.inr (.inr (by
          rw [hL.out]
          show b[M + 1 - 1]? ≠ some 10
          rw [Nat.add_sub_cancel, hc.out]
          intro h
          rw [Option.some.injEq] at h
          exact h10 (by rw [← hz.out, h]; rfl)))))
        go_enter Tryd.func34, Tryd.ntmps34
        go_wp2_with (go_at_call 45; refine (HLong.out _ (HA.out.keep hw1)).mono ?_; rintro e w1 ⟨rfl, hw⟩; subst w1; rw [hL.out])
        refine bodyPost_ret (v := .tuple #[.agg #[.string ⟨#[]⟩, .string ⟨#[]⟩], .int .i64 0, .int .i64 90]) (by simp [results, Tryd.f34, go_sem]) rfl ?_
        exact ⟨hans.out, hw1⟩
end Go.Proofs.YtmbabfelnieagaaDoor
