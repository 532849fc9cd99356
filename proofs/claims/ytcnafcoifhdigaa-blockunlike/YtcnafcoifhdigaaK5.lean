/- Contracts of crc's Seal and of bytes.Equal. -/
import Derived.Test.YtcnafcoifhdigaaK3
import Derived.Test.YtcnafcoifhdigaaK4
namespace Go.Proofs.Ytcnafcoifhdigaa
open Go.RowKit Go.Deep

/-- the bytes of a seal -/
def sealF (f : Nat → Int) (L i : Nat) : Int := if i < L then f i else ((Crc.byteAt (Crc.more 0 (nb f) L) (i - L) : Nat) : Int)
theorem sealF_bd {f : Nat → Int} (h : ∀ i, 0 ≤ f i ∧ f i < 256) (L i : Nat) : 0 ≤ sealF f L i ∧ sealF f L i < 256 := by
  unfold sealF; split
  · exact h i
  · have := Crc.byteAt_lt (Crc.more 0 (nb f) L) (i - L); omega
theorem seal_byte (f : Nat → Int) (L k S : Nat) (hS : S = Crc.more 0 (nb f) L) : ((S / 2 ^ (8 * k) : Nat) : Int) % 256 = sealF f L (L + k) := by
  unfold sealF
  rw [if_neg (by omega), Nat.add_sub_cancel_left, ← hS]
  unfold Crc.byteAt
  omega
theorem shift8 (S k : Nat) : ((S / 2 ^ (8 * k) : Nat) : Int) / 256 = ((S / 2 ^ (8 * (k + 1)) : Nat) : Int) := by
  rw [Nat.mul_succ, Nat.pow_add, ← Nat.div_div_eq_div_mul]
  omega

/-- a row laid into a new block with room for four more -/
theorem own_copied {W2 : World} {base g L : Nat} {f F : Nat → Int} (hb : BlockIs W2 g (L + 4) F) (hF : ∀ i, i < L → F i = f i) (hg : base ≤ g) (hL : L + 4 ≤ maxLen) : W2.ownsRow base 5 1 (.slice (some ⟨g, 0, none⟩) L (L + 4)) L (cellsU f L) := by
  obtain ⟨cur, h1, h2, h3⟩ := hb
  refine ⟨by rw [cellsU_len, Nat.mul_one], Or.inr ⟨g, L + 4, cur, rfl, hg, h1, by omega, hL, by omega, ?_⟩⟩
  rw [Nat.mul_one]
  apply List.ext_getElem?
  intro i
  by_cases hi : i < L
  · rw [List.getElem?_take, if_pos hi, Array.getElem?_toList, h3 i (by omega), hF i hi]
    unfold cellsU; rw [List.getElem?_map, List.getElem?_range hi]; rfl
  · rw [List.getElem?_eq_none (by simp; omega), List.getElem?_eq_none (by rw [cellsU_len]; omega)]

theorem seal_any (A : Option Addr) (L ca : Nat) (f : Nat → Int) (hL : L ≤ 140737488355000) (w : World) (hrow : RowAt w A L f) :
    Calls Try.prog 18 #[.slice A L ca] w fun e w' => ∃ g cap, e = .returned (.slice (some ⟨g, 0, none⟩) (L + 4) cap) ∧ Own w' g (L + 4) (sealF f L) ∧ w.heap.size ≤ g ∧ L + 4 ≤ cap ∧ cap ≤ maxLen ∧ Bw w w' := by
  obtain ⟨i0, hi0, hz0, hz1, hz2⟩ := info_parts info_u8
  obtain ⟨M, hM, hM0, hmk⟩ := made_room L (by omega)
  have hbw1 : Bw w (w.alloc (.cells M 5)) := (Below.refl _ _).alloc (Nat.le_refl _) _
  have hblk : BlockIs (w.alloc (.cells M 5)) w.heap.size (L + 4) (fun _ => 0) := ⟨M, heap_alloc_new _ _, hM, hM0⟩
  obtain ⟨W2, hcp, hblk2, hx2⟩ := copy_ok w.heap.size 0 L (L + 4) (L + 4) L ca 3 (fun _ => 0) f A _ hblk (by omega) (Nat.le_refl _) (hrow.keep hbw1)
  have hrow2 : RowAt W2 A L f := (hrow.keep hbw1).keepx hx2 (fun b o e h => by have := RowAt.lt (e ▸ hrow) (k := 0) h; omega)
  have hbw2 : Bw w W2 := Below.trans hbw1 (hx2.below hbw1.size (fun b e => by omega))
  have hown2 : W2.ownsRow w.heap.size 5 1 (.slice (some ⟨w.heap.size, 0, none⟩) L (L + 4)) L (cellsU f L) := own_copied hblk2 (fun i hi => by unfold cpyF; rw [if_pos (by omega), Nat.sub_zero]) (Nat.le_refl _) (by unfold maxLen; omega)
  clear hblk hblk2 hM0 hM hbw1 hx2
  go_enter Try.func18, Try.ntmps18
  go_wp2_with (go_at_call 26; refine (sum_any A L ca f (by omega) _ hrow2).mono ?_; rintro e w3 ⟨rfl, hw3⟩)
  obtain ⟨S, hS⟩ : ∃ S, S = Crc.more 0 (nb f) L := ⟨_, rfl⟩
  have hS1 : S < 4294967296 := by rw [hS]; exact Crc.more_lt (by decide) (nb_lt hrow.2) L
  rw [← hS]
  have hcong : cellsU f L = cellsU (sealF f L) L := List.map_congr_left fun i hi => by unfold sealF; rw [if_pos (List.mem_range.1 hi)]
  rw [hcong] at hown2
  have hown3 := own_keep hown2 hw3
  have hbw3 := hbw2.trans hw3
  clear hcp hmk hown2 hrow2 hbw2 hw3 hcong
  have hS' : Hid (S = Crc.more 0 (nb f) L) := hS
  clear hS
  go_loopw [3, 4, 16] (fun v s i wr => ∃ k : Nat, k ≤ 4 ∧ i = .int .i64 k ∧ s = .int .u32 (S / 2 ^ (8 * k) : Nat) ∧ wr.ownsRow w.heap.size 5 1 v (L + k) (cellsU (sealF f L) (L + k)) ∧ Bw w wr) (fun _ _ i _ => 4 - (intOf i).toNat)
  case atStart => exact ⟨0, Nat.zero_le _, rfl, by rw [Nat.mul_zero, Nat.pow_zero, Nat.div_one], hown3, hbw3⟩
  case round =>
    obtain ⟨k, hk, rfl, rfl, hown, hw⟩ := hrel
    by_cases hlt : k < 4
    · have e1 := seal_byte f L k S hS'.out
      have e2 := shift8 S k
      have hq : S / 2 ^ (8 * k) < 4294967296 := Nat.lt_of_le_of_lt (Nat.div_le_self _ _) hS1
      have hsz := hw.size
      have hmx : L + k + 1 ≤ maxLen := by unfold maxLen; omega
      generalize S / 2 ^ (8 * k) = q at *
      go_wp2_with (at_builtin; refine wpList_append_lies _ (by rfl) _ _ _ (by rfl) w.heap.size 5 i0 _ 1 1 Try.underlying24 hi0 hz0 hz1 hz2 rfl (by omega) _ _ _ (by rfl) (hown.alloc _) ⟨wr.heap.size, 0, none⟩ 1 1 [_] (by rfl) (by rfl) (World.news_of_block (cs := #[_]) (t := 5) (fr := (0, 0)) (heap_alloc_new wr _)) (by simp [Value.oneCell']) (by omega) hmx (by omega) (by simp; omega) (wr.heap.size + 1) (by simp) ?_; intro gg cc w1 hown1 hgrow hat hlt')
      go_roundw
      case rel => exact ⟨k + 1, by omega, by go_num, by rw [Int.natCast_ediv, Int.natCast_pow]; rfl, by rw [show L + (k + 1) = L + k + 1 from rfl, cellsU_succ]; exact hown1, bw_grow hgrow (Below.alloc hw hsz _) (by rw [size_alloc]; omega) (hown.alloc _)⟩
      case measure => simp [intOf]; omega
    · have ek : k = 4 := by omega
      subst ek
      go_wp2
      go_ret
      obtain ⟨g, cap, rfl, h1, h2, h3, h4⟩ := Own.of hown (by omega)
      exact ⟨g, cap, rfl, h4, h1, h2, h3, hw⟩
theorem equal_any (A B : Option Addr) (n m ca cb : Nat) (f g : Nat → Int) (w : World) (ha : RowAt w A n f) (hb : RowAt w B m g) :
    Calls Try.prog 28 #[.slice A n ca, .slice B m cb] w fun e w' => ∃ x, e = .returned (.bool x) ∧ (x = true ↔ n = m ∧ ∀ i, i < n → f i = g i) ∧ w' = w := by
  have c1 := conv_row (C := ca) ha
  have c2 := conv_row (C := cb) hb
  have c3 := str_inj (L := n) (M := m) ha.2 hb.2
  go_enter Try.func28, Try.ntmps28
  go_wp2
  go_ret
  exact ⟨_, rfl, by rw [beq_iff_eq]; exact c3, rfl⟩

theorem seal_opens {f : Nat → Int} (hf : ∀ i, 0 ≤ f i ∧ f i < 256) (n : Nat) : (∀ i, i < n + 4 → sealF f n i = f i) ↔ Crc.Opens (nb f) n := by
  constructor
  · intro h k hk
    have := h (n + k) (by omega)
    unfold sealF at this
    rw [if_neg (by omega), Nat.add_sub_cancel_left] at this
    unfold nb
    unfold nb at this
    omega
  · intro h i hi
    unfold sealF
    by_cases hlt : i < n
    · rw [if_pos hlt]
    · rw [if_neg hlt]
      have := h (i - n) (by omega)
      rw [show n + (i - n) = i by omega] at this
      rw [← this]
      have := hf i
      unfold nb
      omega

theorem RowAt.less {w : World} {A : Option Addr} {L m : Nat} {f : Nat → Int} (h : RowAt w A L f) (hm : m ≤ L) : RowAt w A m f := by
  refine ⟨?_, h.2⟩
  rcases h.1 with h0 | ⟨b, off, hA, hc⟩
  · exact Or.inl (by omega)
  · exact Or.inr ⟨b, off, hA, fun i hi => hc i (by omega)⟩
theorem RowAt.congr {w : World} {A : Option Addr} {L : Nat} {f g : Nat → Int} (h : RowAt w A L f) (hg : ∀ i, 0 ≤ g i ∧ g i < 256) (e : ∀ i, i < L → g i = f i) : RowAt w A L g := by
  refine ⟨?_, hg⟩
  rcases h.1 with h0 | ⟨b, off, hA, hc⟩
  · exact Or.inl h0
  · exact Or.inr ⟨b, off, hA, fun i hi => by rw [e i hi]; exact hc i hi⟩

/-- what Open says -/
def OpenSays (L : Nat) (f : Nat → Int) (x : Bool) (n' : Nat) : Prop := (x = true ↔ 4 ≤ L ∧ Crc.Opens (nb f) (L - 4)) ∧ n' = cond x (L - 4) 0

theorem open_any (A : Option Addr) (L ca : Nat) (f : Nat → Int) (hL : L ≤ 140737488355000) (w : World) (hrow : RowAt w A L f) (hca : L ≤ ca) :
    Calls Try.prog 21 #[.slice A L ca] w fun e w' => ∃ A' n' cap' x, e = .returned (.tuple #[.slice A' n' cap', .bool x]) ∧ OpenSays L f x n' ∧ NewRow w' w.heap.size A' n' f ∧ Bw w w' := by
  by_cases h4 : L < 4
  · go_enter Try.func21, Try.ntmps21
    go_wp2
    go_ret2
    exact ⟨_, _, _, _, rfl, ⟨by simp; omega, rfl⟩, ⟨⟨Or.inl rfl, hrow.2⟩, Or.inl rfl⟩, Bw.refl _⟩
  · obtain ⟨n, rfl⟩ : ∃ n, L = n + 4 := ⟨L - 4, by omega⟩
    have hn : ((n + 4 : Nat) : Int) - 4 = (n : Int) := by omega
    have hrn := hrow.less (m := n) (by omega)
    go_enter Try.func21, Try.ntmps21
    have hsb := sealF_bd hrow.2 n
    go_wp2_with (first
      | (go_at_call 18; refine (seal_any A n ca f (by omega) _ hrn).mono ?_; rintro e w1 ⟨g, cap, rfl, hown, hg, hcap, hcm, hw1⟩)
      | (go_at_call 28; refine (equal_any _ _ _ _ _ _ _ _ _ (hown.row hsb) (hrow.keep hw1)).mono ?_; rintro e w' ⟨x, rfl, hx, hw'⟩; subst w'))
    · rename_i hxf
      go_ret2
      obtain rfl : x = false := by simpa using hxf
      refine ⟨_, _, _, _, rfl, ⟨?_, rfl⟩, ⟨⟨Or.inl rfl, hrow.2⟩, Or.inl rfl⟩, hw1⟩
      rw [hx, Nat.add_sub_cancel, ← seal_opens hrow.2 n]
      simp
    · rename_i hxt
      go_ret2
      obtain rfl : x = true := by simpa using hxt
      have hopen := (hx.1 rfl).2
      refine ⟨_, _, _, _, rfl, ⟨?_, rfl⟩, ⟨?_, ?_⟩, hw1⟩
      · rw [hx, Nat.add_sub_cancel, ← seal_opens hrow.2 n]
        simp
      · exact ((hown.row hsb).less (by omega)).congr hrow.2 (fun i hi => (hopen i (by omega)).symm)
      · exact Or.inr ⟨g, 0, rfl, hg, hown.lt⟩
end Go.Proofs.Ytcnafcoifhdigaa
