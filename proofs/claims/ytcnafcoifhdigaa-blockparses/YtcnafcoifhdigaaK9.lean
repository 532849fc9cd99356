/- Contracts of the document's own Seal and Open. -/
import Derived.Test.YtcnafcoifhdigaaK6
namespace Go.Proofs.Ytcnafcoifhdigaa
open Go.RowKit Go.Deep

theorem news4 (f : Nat → Int) (L S : Nat) (hS : S = Crc.more 0 (nb f) L) (hS1 : S < 4294967296) :
    cellsU f L ++ [.int .u8 ((S : Int) % 256), .int .u8 ((S : Int) / 256 % 256), .int .u8 ((S : Int) / 65536 % 256), .int .u8 ((S : Int) / 16777216)] = cellsU (sealF f L) (L + 4) := by
  have h := fun k => seal_byte f L k S hS
  have h0 := h 0
  have h1 := h 1
  have h2 := h 2
  have h3 := h 3
  have e0 : ((S / 2 ^ (8 * 0) : Nat) : Int) = (S : Int) := by simp
  have e1 : ((S / 2 ^ (8 * 1) : Nat) : Int) = (S : Int) / 256 := by simp
  have e2 : ((S / 2 ^ (8 * 2) : Nat) : Int) = (S : Int) / 65536 := by simp
  have e3 : ((S / 2 ^ (8 * 3) : Nat) : Int) = (S : Int) / 16777216 := by simp
  rw [e0] at h0
  rw [e1] at h1
  rw [e2] at h2
  rw [e3, show (S : Int) / 16777216 % 256 = (S : Int) / 16777216 by omega] at h3
  have hc : cellsU f L = cellsU (sealF f L) L := List.map_congr_left fun i hi => by unfold sealF; rw [if_pos (List.mem_range.1 hi)]
  rw [show L + 4 = L + 0 + 1 + 1 + 1 + 1 from rfl, cellsU_succ, cellsU_succ, cellsU_succ, cellsU_succ, h0, h1, h2, h3, hc]
  simp [List.append_assoc]

theorem rseal_any (A : Option Addr) (L ca : Nat) (f : Nat → Int) (hL : L ≤ 140737488350000) (w : World) (hrow : RowAt w A L f) (hnil : A = none → ca = 0) :
    Calls Try.prog 11 #[.slice A L ca] w fun e w' => ∃ A' cap', e = .returned (.slice A' (L + 4) cap') ∧ RowAt w' A' (L + 4) (sealF f L) ∧ Bw w w' := by
  obtain ⟨i0, hi0, hz0, hz1, hz2⟩ := info_parts info_u8
  have hmx : 0 + L ≤ maxLen := by unfold maxLen; omega
  have hmx2 : L + 4 ≤ maxLen := by unfold maxLen; omega
  go_enter Try.func11, Try.ntmps11
  go_wp2_with (first
    | (go_at_call 19; refine (rsum_any A L ca f (by omega) _ hrow).mono ?_; rintro e w1 ⟨rfl, hw1⟩; obtain ⟨S, hS⟩ : ∃ S, Hid (S = Crc.more 0 (nb f) L) := ⟨_, rfl⟩; rw [← hS.out]; have hS1 : S < 4294967296 := by rw [hS.out]; exact Crc.more_lt (by decide) (nb_lt hrow.2) L)
    | (at_builtin; refine wpList_append_rowat _ (by rfl) (.tmp 7) (.tmp 8) _ (by rfl) w1.heap.size 5 i0 _ 1 Try.underlying24 hi0 hz0 hz1 hz2 rfl _ _ _ (by rfl) (own_empty w1 w1.heap.size _ (Nat.le_refl _)) A L ca f (by rfl) ((hrow.keep hw1).keep ((Below.refl _ _).alloc (Nat.le_refl _) _)) hnil hmx (by omega) (by simp) ?_; intro v2 w2 hown2 hgrow2; simp only [Nat.zero_add, List.nil_append] at hown2; have bw2 := bw_fresh hgrow2; have sz2 := bw2.size)
    | (at_builtin; refine wpList_append_lies _ (by rfl) (.tmp 10) (.tmp 22) _ (by rfl) w1.heap.size 5 i0 _ 1 1 Try.underlying24 hi0 hz0 hz1 hz2 rfl (by omega) _ _ _ (by rfl) (hown2.alloc _) ⟨w2.heap.size, 0, none⟩ 4 4 [_, _, _, _] (by rfl) (by rfl) (World.news_of_block (cs := #[_, _, _, _]) (t := 5) (fr := (0, 0)) (heap_alloc_new w2 _)) (by simp [Value.oneCell']) (by omega) hmx2 (by omega) (by simp; omega) (w2.heap.size + 1) (by simp) ?_; intro g3 c3 w3 hown3 hgrow3 hat3 hlt3))
  rw [news4 f L S hS.out hS1] at hown3
  obtain ⟨g4, c4, e4, h4, h5, h6, h7⟩ := Own.of hown3 (by omega)
  go_ret
  refine ⟨_, _, rfl, ?_, ?_⟩
  · cases e4
    exact h7.row (sealF_bd hrow.2 L)
  · exact hw1.trans (bw_grow hgrow3 (Below.alloc bw2 sz2 _) (by rw [size_alloc]; omega) (hown2.alloc _))

theorem says_no {f : Nat → Int} {n : Nat} (h : ¬ Crc.Opens (nb f) n) : OpenSays (n + 4) f false 0 := by
  refine ⟨⟨fun e => Bool.noConfusion e, fun e => ?_⟩, rfl⟩
  have := e.2
  rw [Nat.add_sub_cancel] at this
  exact absurd this h
theorem says_yes {f : Nat → Int} {n : Nat} (h : Crc.Opens (nb f) n) : OpenSays (n + 4) f true n := by
  refine ⟨⟨fun _ => ⟨by omega, ?_⟩, fun _ => rfl⟩, rfl⟩
  rw [Nat.add_sub_cancel]; exact h
theorem cells4 {w : World} {b off n : Nat} {f : Nat → Int} (h : RowAt w (some ⟨b, off, none⟩) (n + 4) f) : w.cell? ⟨b, off + n, none⟩ = some (.int .u8 (f n)) ∧ w.cell? ⟨b, off + (n + 1), none⟩ = some (.int .u8 (f (n + 1))) ∧ w.cell? ⟨b, off + (n + 2), none⟩ = some (.int .u8 (f (n + 2))) ∧ w.cell? ⟨b, off + (n + 3), none⟩ = some (.int .u8 (f (n + 3))) := by
  obtain ⟨b', o', e, hc⟩ := h.at (k := 0) (by omega)
  cases e
  exact ⟨hc n (by omega), hc (n + 1) (by omega), hc (n + 2) (by omega), hc (n + 3) (by omega)⟩
theorem opens4 {f : Nat → Int} (hf : ∀ i, 0 ≤ f i ∧ f i < 256) (n S : Nat) (hS : S = Crc.more 0 (nb f) n) (hS1 : S < 4294967296) : Crc.Opens (nb f) n ↔ f n = (S : Int) % 256 ∧ f (n + 1) = (S : Int) / 256 % 256 ∧ f (n + 2) = (S : Int) / 65536 % 256 ∧ f (n + 3) = (S : Int) / 16777216 := by
  have b0 : Crc.byteAt S 0 = S % 256 := by unfold Crc.byteAt; simp
  have b1 : Crc.byteAt S 1 = S / 256 % 256 := by unfold Crc.byteAt; simp
  have b2 : Crc.byteAt S 2 = S / 65536 % 256 := by unfold Crc.byteAt; simp
  have b3 : Crc.byteAt S 3 = S / 16777216 % 256 := by unfold Crc.byteAt; simp
  unfold Crc.Opens
  rw [← hS]
  have g0 := hf n
  have g1 := hf (n + 1)
  have g2 := hf (n + 2)
  have g3 := hf (n + 3)
  constructor
  · intro h
    have h0 := h 0 (by omega)
    have h1 := h 1 (by omega)
    have h2 := h 2 (by omega)
    have h3 := h 3 (by omega)
    rw [b0] at h0
    rw [b1] at h1
    rw [b2] at h2
    rw [b3] at h3
    unfold nb at h0 h1 h2 h3
    rw [Nat.add_zero] at h0
    omega
  · rintro ⟨h0, h1, h2, h3⟩ k hk
    have hk' : k = 0 ∨ k = 1 ∨ k = 2 ∨ k = 3 := by omega
    rcases hk' with rfl | rfl | rfl | rfl
    · rw [b0, Nat.add_zero]; unfold nb; omega
    · rw [b1]; unfold nb; omega
    · rw [b2]; unfold nb; omega
    · rw [b3]; unfold nb; omega

theorem ropen_any (A : Option Addr) (L ca : Nat) (f : Nat → Int) (hL : L ≤ 140737488350000) (w : World) (hrow : RowAt w A L f) (hca : L ≤ ca) :
    Calls Try.prog 23 #[.slice A L ca] w fun e w' => ∃ A' n' cap' x, e = .returned (.tuple #[.slice A' n' cap', .bool x]) ∧ OpenSays L f x n' ∧ RowAt w' A' n' f ∧ Bw w w' := by
  by_cases h4 : L < 4
  · go_enter Try.func23, Try.ntmps23
    go_wp2
    go_ret2
    exact ⟨_, _, _, _, rfl, ⟨by simp; omega, rfl⟩, ⟨Or.inl rfl, hrow.2⟩, Bw.refl _⟩
  · obtain ⟨n, rfl⟩ : ∃ n, L = n + 4 := ⟨L - 4, by omega⟩
    have hn : ((n + 4 : Nat) : Int) - 4 = (n : Int) := by omega
    have hrn := hrow.less (m := n) (by omega)
    obtain ⟨b, off, rfl, hc⟩ := hrow.at (k := 0) (by omega)
    have n0 : (0 : Int) ≤ (n : Int) := Int.natCast_nonneg _
    obtain ⟨S, hS⟩ : ∃ S, Hid (S = Crc.more 0 (nb f) n) := ⟨_, rfl⟩
    have hS1 : S < 4294967296 := by rw [hS.out]; exact Crc.more_lt (by decide) (nb_lt hrow.2) n
    have hop := opens4 hrow.2 n S hS.out hS1
    clear hc
    by_cases t0 : f n = (S : Int) % 256
    · by_cases t1 : f (n + 1) = (S : Int) / 256 % 256
      · by_cases t2 : f (n + 2) = (S : Int) / 65536 % 256
        · by_cases t3 : f (n + 3) = (S : Int) / 16777216
          · have e0 : (f n != (S : Int) % 256) = false := by rw [bne_eq_false_iff_eq]; exact t0
            have e1 : (f (n + 1) != (S : Int) / 256 % 256) = false := by rw [bne_eq_false_iff_eq]; exact t1
            have e2 : (f (n + 2) != (S : Int) / 65536 % 256) = false := by rw [bne_eq_false_iff_eq]; exact t2
            have e3 : (f (n + 3) != (S : Int) / 16777216) = false := by rw [bne_eq_false_iff_eq]; exact t3
            have hyes : Crc.Opens (nb f) n := hop.2 ⟨t0, t1, t2, t3⟩
            clear t0 t1 t2 t3 hop
            go_enter Try.func23, Try.ntmps23
            go_wp2_with (go_at_call 19; refine (rsum_any _ n ca f (by omega) _ hrn).mono ?_; rintro e w1 ⟨rfl, hw1⟩; rw [← hS.out]; obtain ⟨c0, c1, c2, c3⟩ := cells4 (hrow.keep hw1))
            go_ret2
            exact ⟨_, _, _, _, rfl, says_yes hyes, hrn.keep hw1, hw1⟩
          · have e0 : (f n != (S : Int) % 256) = false := by rw [bne_eq_false_iff_eq]; exact t0
            have e1 : (f (n + 1) != (S : Int) / 256 % 256) = false := by rw [bne_eq_false_iff_eq]; exact t1
            have e2 : (f (n + 2) != (S : Int) / 65536 % 256) = false := by rw [bne_eq_false_iff_eq]; exact t2
            have e3 : (f (n + 3) != (S : Int) / 16777216) = true := by rw [bne_iff_ne]; exact t3
            have hnot : ¬ Crc.Opens (nb f) n := fun h => t3 (hop.1 h).2.2.2
            clear t0 t1 t2 t3 hop
            go_enter Try.func23, Try.ntmps23
            go_wp2_with (go_at_call 19; refine (rsum_any _ n ca f (by omega) _ hrn).mono ?_; rintro e w1 ⟨rfl, hw1⟩; rw [← hS.out]; obtain ⟨c0, c1, c2, c3⟩ := cells4 (hrow.keep hw1))
            go_ret2
            exact ⟨_, _, _, _, rfl, says_no hnot, ⟨Or.inl rfl, hrow.2⟩, hw1⟩
        · have e0 : (f n != (S : Int) % 256) = false := by rw [bne_eq_false_iff_eq]; exact t0
          have e1 : (f (n + 1) != (S : Int) / 256 % 256) = false := by rw [bne_eq_false_iff_eq]; exact t1
          have e2 : (f (n + 2) != (S : Int) / 65536 % 256) = true := by rw [bne_iff_ne]; exact t2
          have hnot : ¬ Crc.Opens (nb f) n := fun h => t2 (hop.1 h).2.2.1
          clear t0 t1 t2 hop
          go_enter Try.func23, Try.ntmps23
          go_wp2_with (go_at_call 19; refine (rsum_any _ n ca f (by omega) _ hrn).mono ?_; rintro e w1 ⟨rfl, hw1⟩; rw [← hS.out]; obtain ⟨c0, c1, c2, c3⟩ := cells4 (hrow.keep hw1))
          go_ret2
          exact ⟨_, _, _, _, rfl, says_no hnot, ⟨Or.inl rfl, hrow.2⟩, hw1⟩
      · have e0 : (f n != (S : Int) % 256) = false := by rw [bne_eq_false_iff_eq]; exact t0
        have e1 : (f (n + 1) != (S : Int) / 256 % 256) = true := by rw [bne_iff_ne]; exact t1
        have hnot : ¬ Crc.Opens (nb f) n := fun h => t1 (hop.1 h).2.1
        clear t0 t1 hop
        go_enter Try.func23, Try.ntmps23
        go_wp2_with (go_at_call 19; refine (rsum_any _ n ca f (by omega) _ hrn).mono ?_; rintro e w1 ⟨rfl, hw1⟩; rw [← hS.out]; obtain ⟨c0, c1, c2, c3⟩ := cells4 (hrow.keep hw1))
        go_ret2
        exact ⟨_, _, _, _, rfl, says_no hnot, ⟨Or.inl rfl, hrow.2⟩, hw1⟩
    · have e0 : (f n != (S : Int) % 256) = true := by rw [bne_iff_ne]; exact t0
      have hnot : ¬ Crc.Opens (nb f) n := fun h => t0 (hop.1 h).1
      clear t0 hop
      go_enter Try.func23, Try.ntmps23
      go_wp2_with (go_at_call 19; refine (rsum_any _ n ca f (by omega) _ hrn).mono ?_; rintro e w1 ⟨rfl, hw1⟩; rw [← hS.out]; obtain ⟨c0, c1, c2, c3⟩ := cells4 (hrow.keep hw1))
      go_ret2
      exact ⟨_, _, _, _, rfl, says_no hnot, ⟨Or.inl rfl, hrow.2⟩, hw1⟩

end Go.Proofs.Ytcnafcoifhdigaa
