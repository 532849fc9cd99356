/- bytes.Cut at one byte; the program's own first, as landed at 7a0984bd. -/
import Derived.Test.YtmbabfelnieagabDoorBT
import Derived.Test.YtmbabfelnieagabDoorBM
namespace Go.Proofs.YtmbabfelnieagabDoor
open Go.RowKit Go.Deep
set_option linter.unusedVariables false
set_option linter.unusedSimpArgs false

theorem Px.long_at {b : Px.B} {N d : Nat} (h : Px.longF b = (N, d)) (hd : d ≠ 0) : (∀ i, i < d → ∃ c, b[i]? = some c ∧ Px.isD c = true) ∧ b[d]? = some 32 := by
  unfold Px.longF at h
  split at h
  · rw [Prod.mk.injEq] at h; exact absurd h.2.symm hd
  · rename_i hc
    rw [Prod.mk.injEq] at h
    rw [← h.2]
    refine ⟨fun i hi => Px.tw_at b i hi, ?_⟩
    exact Classical.not_not.1 (fun k => hc (.inr (.inr (.inr k))))
theorem Px.long_far {b : Px.B} {N d M : Nat} (h : Px.longF b = (N, d)) (hd : d ≠ 0) (hM : b[M]? = some 10) : d + 1 ≤ M := by
  obtain ⟨h1, h2⟩ := Px.long_at h hd
  rcases Nat.lt_or_ge d M with k | k
  · exact k
  · exfalso
    rcases Nat.eq_or_lt_of_le k with e | e
    · rw [← e, hM] at h2; exact absurd h2 (by decide)
    · obtain ⟨c, h3, h4⟩ := h1 M e
      rw [hM, Option.some.injEq] at h3
      rw [← h3] at h4
      exact absurd h4 (by decide)
theorem Px.bytesOf_row (s : Px.B) : Lib.bytesOf (s.map fun c => (c.toNat : Int)) = s := by
  unfold Lib.bytesOf
  rw [List.map_map]
  conv => rhs; rw [← List.map_id s]
  apply List.map_congr_left
  intro c _
  show UInt8.ofNat ((c.toNat : Int)).toNat = c
  simp
/-- bytes.Cut at the sign -/
theorem cut_any (g o c1 g2 : Nat) (s : Px.B) (hn : s.length ≤ 4611686018427387904) (hcap : s.length ≤ c1) (w : World) (hc : ∀ i c, s[i]? = some c → w.cell? ⟨g, o + i, none⟩ = some (.int .u8 (c.toNat : Int))) (hc2 : w.cell? ⟨g2, 0, none⟩ = some (.int .u8 61)) :
    Calls Tryd.prog 39 #[.slice (some ⟨g, o, none⟩) s.length c1, .slice (some ⟨g2, 0, none⟩) 1 1] w fun e w' => e = .returned (Lib.cutV (some ⟨g, o, none⟩) s.length c1 1 (Lib.indexByte s 61)) ∧ ∃ q, w' = w.drewN q := by
  have hl : ((s.map fun c => (c.toNat : Int))).length = s.length := List.length_map _
  refine Any.bytes_Cut_of (ρ := sx4_ren) sx4 (some ⟨g, o, none⟩) (some ⟨g2, 0, none⟩) s.length c1 1 1 _ w hcap (Lib.indexByte_ge _ _) (fun h => ?_) hn ?_
  · obtain ⟨j, hj⟩ : ∃ j : Nat, Lib.indexByte s 61 = j := ⟨(Lib.indexByte s 61).toNat, by omega⟩
    have := (List.getElem?_eq_some_iff.1 (Lib.indexByte_some hj).1).1
    omega
  · have := Any.bytes_Index_one (ρ := sx4_ren.viaSlbt) sx4.index g o s.length c1 g2 0 1 (s.map fun c => (c.toNat : Int)) 61 w hl (fun i hi => by
      obtain ⟨c, hci⟩ : ∃ c, s[i]? = some c := ⟨_, List.getElem?_eq_getElem hi⟩
      rw [hc i c hci, List.getD_eq_getElem?_getD, List.getElem?_map, hci]; rfl) hc2
    rw [Px.bytesOf_row] at this
    exact this.mono fun e w' ⟨h1, h2⟩ => ⟨h1, 0, h2⟩
/-- what first answers -/
def OneIn (b : Px.B) (e : Ending) : Prop := (Px.oneF b).2.2 ≠ 0 ∧ e = thrown (Px.oneF b).2.2 ∨ (Px.oneF b).2.2 = 0 ∧ e = .returned (.tuple #[.agg #[.string (Nm.S (Px.oneF b).1.1), .string (Nm.S (Px.oneF b).1.2)], .int .i64 ((Px.oneF b).2.1 : Int)])
theorem onein_90 {b : Px.B} (h : Px.oneF b = (([], []), 0, 90)) : OneIn b (thrown 90) := .inl ⟨by rw [h]; decide, by rw [h]⟩
set_option maxRecDepth 100000 in
set_option maxHeartbeats 4000000 in
theorem first_any (A : Option Addr) (cap : Nat) (b : Px.B) (hn : b.length ≤ 140737488355328) (hcap : b.length ≤ cap) (hne : 0 < b.length) (w : World) (hk : KAt w) (ha : RowAt w A b.length (Px.rowF b)) :
    Calls Tryd.prog 29 #[.slice A b.length cap] w fun e w' => OneIn b e ∧ Bw w w' := by
  obtain ⟨N, d, hL⟩ : ∃ a b', Hid (Px.longF b = (a, b')) := ⟨_, _, show Px.longF b = _ from rfl⟩
  have HA : Hid (RowAt w A b.length (Px.rowF b)) := ha
  have HK : Hid (KAt w) := hk
  have hw1 : Bw w (w.alloc (.cells #[.string ⟨#[]⟩, .string ⟨#[]⟩] 23)) := Below.alloc (Below.refl _ _) (Nat.le_refl _) _
  obtain ⟨n, hnn⟩ : ∃ n, Hid (b.length = n) := ⟨_, rfl⟩
  have HLen : Hid (∀ u, Bw w u → Calls Tryd.prog 38 #[.slice A n cap] u fun e w' => LenIn b e ∧ w' = u) := fun u h => by
    have := len_any A cap b hn hcap hne u (HA.out.keep h)
    rw [hnn.out] at this
    exact this
  rw [hnn.out] at hn hcap hne ⊢
  clear ha hk
  have N0 : (0 : Int) ≤ (N : Int) := Int.natCast_nonneg _
  by_cases hd : d = 0
  · have hans := onein_90 (Px.one_bad1 (.inl (by rw [hL.out]; exact hd)))
    have HAN : Hid (OneIn b (thrown 90)) := hans
    clear hans
    go_enter Tryd.func29, Tryd.ntmps29
    go_wp2_with (go_at_call 38; refine (HLen.out _ hw1).mono ?_; rintro e w1 ⟨hA, hw⟩; subst w1; rw [LenIn, hL.out] at hA; rcases hA with ⟨-, rfl⟩ | ⟨h, -⟩; rotate_left; exact absurd hd h; unfold thrown)
    exact ⟨rfl, HAN.out, hw1⟩
  · obtain ⟨hN1, hd4, hdn, hN9⟩ := Px.long_pos (b := b) (by rw [hL.out]; exact hd)
    rw [hL.out, hnn.out] at hdn
    rw [hL.out] at hN1 hd4 hN9
    dsimp only at hN1 hd4 hN9 hdn
    have HD : Hid (d ≠ 0) := hd
    by_cases hNn : n < N
    · have HAN : Hid (OneIn b (thrown 90)) := onein_90 (Px.one_bad1 (.inr (.inl (by rw [hL.out, hnn.out]; exact hNn))))
      have t1 : ¬ (N : Int) ≤ (n : Int) := by omega
      clear hd
      go_enter Tryd.func29, Tryd.ntmps29
      go_wp2_with (first
        | (go_at_call 38; refine (HLen.out _ hw1).mono ?_; rintro e w1 ⟨hA, hw⟩; subst w1; rw [LenIn, hL.out] at hA; rcases hA with ⟨h, -⟩ | ⟨-, rfl⟩; exact absurd h HD.out)
        | (go_at_call 28; refine (must_no _ (by first | rfl | assumption | (simp [*])) 90 90 rfl _).mono ?_; rintro e w2 ⟨rfl, hw2⟩; subst w2; unfold thrown))
      exact ⟨rfl, HAN.out, hw1⟩
    · obtain ⟨c, hc⟩ : ∃ c : UInt8, Hid (b[N - 1]? = some c) := at_of (by rw [hnn.out]; omega)
      obtain ⟨g, o, rfl, hcell⟩ := rowcell HA.out (by rw [hnn.out]; exact hne)
      have HC : Hid (∀ W, Bw w W → ∀ i c, b[i]? = some c → W.cell? ⟨g, o + i, none⟩ = some (.int .u8 (c.toNat : Int))) := fun W h i c hi => (h.cell (p := ⟨g, o + i, none⟩) (block_lt_of_cell (hcell i c hi))).trans (hcell i c hi)
      clear hcell
      obtain ⟨M, hM⟩ : ∃ M, N = M + 1 := ⟨N - 1, by omega⟩
      subst hM
      rw [Nat.add_sub_cancel] at hc
      have q1 := HC.out _ hw1 M c hc.out
      have M0 : (0 : Int) ≤ (M : Int) := Int.natCast_nonneg _
      have M1 : (M : Int) < (n : Int) := by omega
      have M2 : (M : Int) + 1 ≤ (n : Int) := by omega
      have hD2 : Hid (((d + 1 : Nat) : Int) = (d : Int) + 1) := by show _ = _; omega
      by_cases h10 : c.toNat = 10
      · have ht : Hid (b[M + 1 - 1]? = some 10) := by show _ = _; rw [Nat.add_sub_cancel, hc.out]; congr 1; exact UInt8.toNat_inj.1 h10
        have e10 : ((c.toNat : Int) == 10) = true := by rw [beq_iff_eq]; omega
        have hdM : d + 1 ≤ M := Px.long_far hL.out hd (by have := ht.out; rw [Nat.add_sub_cancel] at this; exact this)
        obtain ⟨D, hD⟩ : ∃ D, Hid (d + 1 = D) := ⟨_, rfl⟩
        rw [hD.out] at hdM
        obtain ⟨m, rfl⟩ : ∃ m, M = D + m := ⟨M - D, by omega⟩
        obtain ⟨C, rfl⟩ : ∃ C, cap = D + C := ⟨cap - D, by omega⟩
        obtain ⟨Bd, hBd⟩ : ∃ x, Hid ((b.take (D + m)).drop D = x) := ⟨_, rfl⟩
        have hBl : Hid (Bd.length = m) := by
          show _ = _
          rw [← hBd.out, List.length_drop, List.length_take, hnn.out]; omega
        have hBat : Hid (∀ i c, Bd[i]? = some c → b[D + i]? = some c) := fun i c h => by
          have hi := (List.getElem?_eq_some_iff.1 h).1
          rw [hBl.out] at hi
          rw [← hBd.out, List.getElem?_drop, List.getElem?_take, if_pos (by omega)] at h
          exact h
        have HCut : Hid (∀ W g2, Bw w W → W.cell? ⟨g2, 0, none⟩ = some (.int .u8 61) → Calls Tryd.prog 39 #[.slice (some ⟨g, o + D, none⟩) m C, .slice (some ⟨g2, 0, none⟩) 1 1] W fun e w' => e = .returned (Lib.cutV (some ⟨g, o + D, none⟩) m C 1 (Lib.indexByte Bd 61)) ∧ Bw W w') := fun W g2 h h2 => by
          have := cut_any g (o + D) C g2 Bd (by rw [hBl.out]; omega) (by rw [hBl.out]; omega) W (fun i c hi => by have := HC.out W h (D + i) c (hBat.out i c hi); rw [← Nat.add_assoc] at this; exact this) h2
          rw [hBl.out] at this
          exact this.mono fun e w' ⟨h1, q, h2⟩ => ⟨h1, by rw [h2]; exact Bw.drewN _ _⟩
        have tD : (0 : Int) ≤ (D : Int) := Int.natCast_nonneg _
        have tok0 : Hid (w = w) := rfl
        have tok1 : Hid (w = w) := rfl
        have hW2 : Bw w ((w.alloc (.cells #[.string ⟨#[]⟩, .string ⟨#[]⟩] 23)).alloc (.cells #[.int .u8 61] 5)) := hw1.alloc (by simp) _
        have hC61 : ((w.alloc (.cells #[.string ⟨#[]⟩, .string ⟨#[]⟩] 23)).alloc (.cells #[.int .u8 61] 5)).cell? ⟨w.heap.size + 1, 0, none⟩ = some (.int .u8 61) := by
          have h := VarAt.new (w.alloc (.cells #[.string ⟨#[]⟩, .string ⟨#[]⟩] 23)) (.int .u8 61) 5
          rw [alloc_size9] at h
          exact h.cell
        have HC61 : Hid _ := hC61
        clear hd h10 hC61
        go_enter Tryd.func29, Tryd.ntmps29
        go_wp2_with (first
          | (go_at_call 38; refine (HLen.out _ hw1).mono ?_; rintro e w1 ⟨hA, hw⟩; subst w1; rw [LenIn, hL.out] at hA; rcases hA with ⟨h, -⟩ | ⟨-, rfl⟩; exact absurd h HD.out; rw [show (D + m + 1, d).2 + 1 = D from hD.out])
          | (go_at_call 28; clear tok0; refine (must_yes _ (by first | rfl | assumption | (simp [*])) _ _).mono ?_; rintro e w2 ⟨rfl, hw2⟩; subst w2)
          | (go_at_call 39; refine (HCut.out _ _ hW2 HC61.out).mono ?_; rintro e w3 ⟨rfl, hw3⟩; refine Hid.out ?_))
        refine Lib.hid ?_
        have hb3 : Bw w w3 := hW2.trans hw3
        have hix := Lib.indexByte_ge Bd 61
        by_cases hneg : Lib.indexByte Bd 61 = -1
        · have HAN : Hid (OneIn b (thrown 90)) := onein_90 (Px.one_bad2 hL.out HD.out (by rw [hnn.out]; omega) ht.out (fun i x hi => by
            rw [Nat.add_sub_cancel, hD.out, hBd.out] at hi
            intro e
            rw [e] at hi
            exact Lib.indexByte_none hneg i hi))
          have hcv : Lib.cutV (some ⟨g, o + D, none⟩) m C 1 (Lib.indexByte Bd 61) = .tuple #[.slice (some ⟨g, o + D, none⟩) m C, .slice none 0 0, .bool false] := by
            unfold Lib.cutV
            rw [hneg]; rfl
          rw [hcv]
          clear hcv hneg hix q1
          go_wp2_with (go_at_call 28; clear tok1; refine (must_no _ (by first | rfl | assumption | (simp [*])) 90 90 rfl _).mono ?_; rintro e w4 ⟨rfl, hw4⟩; subst w4; unfold thrown)
          exact ⟨rfl, HAN.out, hb3⟩
        · obtain ⟨j, hj⟩ : ∃ j : Nat, Lib.indexByte Bd 61 = j := ⟨(Lib.indexByte Bd 61).toNat, by omega⟩
          obtain ⟨j1, j2⟩ := Lib.indexByte_some hj
          have jl := (List.getElem?_eq_some_iff.1 j1).1
          rw [hBl.out] at jl
          have hone := Px.one_good (j := j) hL.out HD.out (by rw [hnn.out]; omega) ht.out (by rw [Nat.add_sub_cancel, hD.out, hBd.out]; exact fun i x hi hx e => j2 i hi (by rw [hx, e])) (by rw [Nat.add_sub_cancel, hD.out, hBd.out]; exact j1)
          rw [Nat.add_sub_cancel, hD.out] at hone
          obtain ⟨r, hr⟩ : ∃ r, Hid (m = j + 1 + r) := ⟨m - (j + 1), by show _ = _; omega⟩
          have hcv : Lib.cutV (some ⟨g, o + D, none⟩) m C 1 (Lib.indexByte Bd 61) = .tuple #[.slice (some ⟨g, o + D, none⟩) j C, .slice (some ⟨g, o + D + (j + 1), none⟩) r (C - (j + 1)), .bool true] := by
            unfold Lib.cutV Lib.fromV
            rw [hj, if_pos (by omega), Int.toNat_natCast, if_neg (by omega), show m - (j + 1) = r by have := hr.out; omega]
            rfl
          rw [hcv]
          obtain ⟨K, hK⟩ : ∃ K, Hid ((b.take (D + j)).drop D = K) := ⟨_, rfl⟩
          obtain ⟨V, hV⟩ : ∃ V, Hid ((b.take (D + m)).drop (D + j + 1) = V) := ⟨_, rfl⟩
          rw [hK.out, hV.out] at hone
          have HONE : Hid (Px.oneF b = (if Px.fits (K, V) ≠ 0 then (([], []), 0, Px.fits (K, V)) else if Px.psize (K, V) ≠ D + m + 1 then (([], []), 0, 90) else ((K, V), D + m + 1, 0))) := hone
          clear hone hcv hneg hix q1 j1 j2 hj
          have hr3 := HA.out.keep hb3
          have kK : ∀ c, (convert 27 9 (.slice (some ⟨g, o + D, none⟩) j c)).run Tryd.prog w3 = .ok (.string (Nm.S K)) w3 := fun c => by
            have := conv_cut (lo := D) (hi := D + j) (C := c) hr3 (by rw [hnn.out]; omega)
            rw [Nat.add_sub_cancel_left, hK.out] at this
            exact this
          have kV : ∀ c, (convert 27 9 (.slice (some ⟨g, o + D + (j + 1), none⟩) r c)).run Tryd.prog w3 = .ok (.string (Nm.S V)) w3 := fun c => by
            have := conv_cut (lo := D + j + 1) (hi := D + m) (C := c) hr3 (by rw [hnn.out]; omega)
            rw [show D + m - (D + j + 1) = r by have := hr.out; omega, hV.out, show o + (D + j + 1) = o + D + (j + 1) by omega] at this
            exact this
          have hKl : K.length ≤ n := by rw [← hK.out, List.length_drop, List.length_take, hnn.out]; omega
          have hVl : V.length ≤ n := by rw [← hV.out, List.length_drop, List.length_take, hnn.out]; omega
          have hs1 : (Nm.S K).size ≤ 140737488355328 := by rw [Nm.size_S]; omega
          have hs2 : (Nm.S V).size ≤ 140737488355328 := by rw [Nm.size_S]; omega
          have hpp : Hid (((Nm.S K).toList, (Nm.S V).toList) = (K, V)) := by show _ = _; rw [Nm.toList_S, Nm.toList_S]
          have hR0 : Hid (w3.heap[w.heap.size]? = some (.cells #[.string ⟨#[]⟩, .string ⟨#[]⟩] 23 (0, 0))) := by
            show _ = _
            rw [hw3.block w.heap.size (by rw [alloc_size9, alloc_size9]; omega), Below.heap_alloc _ _ _ (by rw [alloc_size9]; omega)]
            exact World.alloc_heap_new w _
          have hw3l : w.heap.size < w3.heap.size := (Array.getElem?_eq_some_iff.1 hR0.out).1
          clear hr3
          have hb4 : Bw w (w3.alloc (.cells #[.string (Nm.S K), .string (Nm.S V)] 23)) := hb3.trans (Below.alloc (Below.refl _ _) (Nat.le_refl _) _)
          have HP : Hid (∀ W, Bw (w3.alloc (.cells #[.string (Nm.S K), .string (Nm.S V)] 23)) W → W.cell? ⟨w3.heap.size, 0, none⟩ = some (.string (Nm.S K)) ∧ W.cell? ⟨w3.heap.size, 1, none⟩ = some (.string (Nm.S V)) ∧ W.cell? ⟨w.heap.size, 0, none⟩ = some (.string ⟨#[]⟩) ∧ W.cell? ⟨w.heap.size, 1, none⟩ = some (.string ⟨#[]⟩) ∧ W.frozen? ⟨w.heap.size, 0, none⟩ = false ∧ W.frozen? ⟨w.heap.size, 1, none⟩ = false) := fun W h => by
            have g1 := (h.block w3.heap.size (by rw [alloc_size9]; omega)).trans (World.alloc_heap_new w3 _)
            have g0 := (h.block w.heap.size (by rw [alloc_size9]; omega)).trans ((Below.heap_alloc w3 _ _ hw3l).trans hR0.out)
            exact ⟨cell_of_row W _ 0 _ _ _ g1, cell_of_row W _ 1 _ _ _ g1, cell_of_row W _ 0 _ _ _ g0, cell_of_row W _ 1 _ _ _ g0, by simp [World.frozen?, g0], by simp [World.frozen?, g0]⟩
          obtain ⟨F, hF⟩ : ∃ F, Hid (Px.fits (K, V) = F) := ⟨_, rfl⟩
          obtain ⟨Z, hZ⟩ : ∃ Z, Hid (Px.psize (K, V) = Z) := ⟨_, rfl⟩
          rw [hF.out, hZ.out] at HONE
          by_cases h0 : F = 0
          · subst h0
            by_cases h1 : Z = D + m + 1
            · have hans : Hid (OneIn b (.returned (.tuple #[.agg #[.string (Nm.S K), .string (Nm.S V)], .int .i64 ((D : Int) + (m : Int) + 1)]))) := by
                refine .inr ⟨by rw [HONE.out, if_neg (by simp), if_neg (fun h => h h1)], ?_⟩
                rw [HONE.out, if_neg (by simp), if_neg (fun h => h h1)]
                simp
              have e1 : ((D : Int) + (m : Int) + 1 == (Z : Int)) = true := by rw [beq_iff_eq]; omega
              have tok2 : Hid (w = w) := rfl
              clear h1
              go_wp2_with (first
                | (go_at_call 28; clear tok1; refine (must_yes _ (by first | rfl | assumption | (simp [*])) _ _).mono ?_; rintro e w4 ⟨rfl, hw4⟩; subst w4)
                | (go_at_call 32; refine (mbp_any (Nm.S K) (Nm.S V) hs1 hs2 _).mono ?_; rintro e w5 ⟨hA, hw5⟩; rw [hpp.out, hF.out] at hA; rcases hA with ⟨h, rfl⟩ | ⟨h, -⟩; rotate_left; exact absurd rfl h; obtain ⟨p1, p2, p3, p4, p5, p6⟩ := HP.out w5 hw5)
                | (go_at_call 8; refine (psize_any (Nm.S K) (Nm.S V) hs1 hs2 _ (HK.out.keep (hb4.trans hw5))).mono ?_; rintro e w6 ⟨rfl, hw6⟩; rw [hpp.out, hZ.out]; clear p1 p2 p3 p4 p5 p6; obtain ⟨p1, p2, p3, p4, p5, p6⟩ := HP.out w6 (hw5.trans hw6))
                | (go_at_call 28; clear tok2; refine (must_yes _ (by first | rfl | assumption | (simp [*])) _ _).mono ?_; rintro e w7 ⟨rfl, hw7⟩; subst w7))
              obtain ⟨r1, r2⟩ := two_cells (a := .string (Nm.S K)) (b := .string (Nm.S V)) p3 p4
              refine bodyPost_ret (v := .tuple #[.agg #[.string (Nm.S K), .string (Nm.S V)], .int .i64 ((D : Int) + (m : Int) + 1)]) (by simp [results, Tryd.f29, go_sem, r1, r2]) rfl ?_
              exact ⟨hans.out, ((hb4.trans (hw5.trans hw6)).setCell (p := ⟨w.heap.size, 0, none⟩) (Nat.le_refl _) _).setCell (p := ⟨w.heap.size, 1, none⟩) (Nat.le_refl _) _⟩
            · have HAN : Hid (OneIn b (thrown 90)) := onein_90 (by rw [HONE.out, if_neg (by simp), if_pos h1])
              have e1 : ((D : Int) + (m : Int) + 1 == (Z : Int)) = false := beq_eq_false_iff_ne.2 (by omega)
              have tok2 : Hid (w = w) := rfl
              clear h1
              go_wp2_with (first
                | (go_at_call 28; clear tok1; refine (must_yes _ (by first | rfl | assumption | (simp [*])) _ _).mono ?_; rintro e w4 ⟨rfl, hw4⟩; subst w4)
                | (go_at_call 32; refine (mbp_any (Nm.S K) (Nm.S V) hs1 hs2 _).mono ?_; rintro e w5 ⟨hA, hw5⟩; rw [hpp.out, hF.out] at hA; rcases hA with ⟨h, rfl⟩ | ⟨h, -⟩; rotate_left; exact absurd rfl h; obtain ⟨p1, p2, p3, p4, p5, p6⟩ := HP.out w5 hw5)
                | (go_at_call 8; refine (psize_any (Nm.S K) (Nm.S V) hs1 hs2 _ (HK.out.keep (hb4.trans hw5))).mono ?_; rintro e w6 ⟨rfl, hw6⟩; rw [hpp.out, hZ.out]; clear p1 p2 p3 p4 p5 p6; obtain ⟨p1, p2, p3, p4, p5, p6⟩ := HP.out w6 (hw5.trans hw6))
                | (go_at_call 28; clear tok2; refine (must_no _ (by first | rfl | assumption | (simp [*])) 90 90 rfl _).mono ?_; rintro e w7 ⟨rfl, hw7⟩; subst w7; unfold thrown))
              exact ⟨rfl, HAN.out, hb4.trans (hw5.trans hw6)⟩
          · have HAN : Hid (OneIn b (thrown F)) := .inl ⟨by rw [HONE.out, if_pos h0]; exact h0, by rw [HONE.out, if_pos h0]⟩
            go_wp2_with (first
              | (go_at_call 28; clear tok1; refine (must_yes _ (by first | rfl | assumption | (simp [*])) _ _).mono ?_; rintro e w4 ⟨rfl, hw4⟩; subst w4)
              | (go_at_call 32; refine (mbp_any (Nm.S K) (Nm.S V) hs1 hs2 _).mono ?_; rintro e w5 ⟨hA, hw5⟩; rw [hpp.out, hF.out] at hA; rcases hA with ⟨h, -⟩ | ⟨-, rfl⟩; exact absurd h h0; unfold thrown))
            exact ⟨rfl, HAN.out, hb4.trans hw5⟩
      · have HAN : Hid (OneIn b (thrown 90)) := onein_90 (Px.one_bad1 (.inr (.inr (by rw [hL.out]; dsimp only; rw [Nat.add_sub_cancel, hc.out]; exact fun h => h10 (by rw [Option.some.injEq] at h; rw [h]; rfl)))))
        have e10 : ((c.toNat : Int) == 10) = false := beq_eq_false_iff_ne.2 (by omega)
        clear hd h10
        have tok0 : Hid (w = w) := rfl
        go_enter Tryd.func29, Tryd.ntmps29
        go_wp2_with (first
          | (go_at_call 38; refine (HLen.out _ hw1).mono ?_; rintro e w1 ⟨hA, hw⟩; subst w1; rw [LenIn, hL.out] at hA; rcases hA with ⟨h, -⟩ | ⟨-, rfl⟩; exact absurd h HD.out)
          | (go_at_call 28; refine (must_no _ (by first | rfl | assumption | (simp [*])) 90 90 rfl _).mono ?_; rintro e w2 ⟨rfl, hw2⟩; subst w2; unfold thrown))
        exact ⟨rfl, HAN.out, hw1⟩
end Go.Proofs.YtmbabfelnieagabDoor
