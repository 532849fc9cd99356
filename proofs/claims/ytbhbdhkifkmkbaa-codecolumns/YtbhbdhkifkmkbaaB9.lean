/- Texts of mine, put together. -/
import Derived.Test.YtbhbdhkifkmkbaaB8

set_option linter.unusedVariables false

/- What the program's solve answers, and out of it its Decode and Rebuild. -/
namespace Go.Proofs.Ytbhbdhkifkmkbaa
open Go.RowKit

theorem eq_any (A B : Option Addr) (la ca lb cb : Nat) (f g : Nat → Int) (w : World) (ha : RowAt w A la f) (hb : RowAt w B lb g) (b : Bool) (hbb : b = true ↔ (la = lb ∧ ∀ i, i < la → f i = g i)) :
    Calls Try.prog 49 #[.slice A la ca, .slice B lb cb] w fun e w' => e = .returned (.bool b) ∧ w' = w := by
  have hin := str_inj (L := la) (M := lb) ha.2 hb.2
  have hb2 : ((str f la).toList == (str g lb).toList) = b := by
    cases b with
    | true => simpa using hin.2 (hbb.1 rfl)
    | false =>
      have : ¬ (str f la).toList = (str g lb).toList := fun e => by have := hbb.2 (hin.1 e); cases this
      simpa using this
  have c1 := conv_row (C := ca) ha
  have c2 := conv_row (C := cb) hb
  clear hin hbb
  generalize str f la = s1 at *
  generalize str g lb = s2 at *
  go_enter Try.func49, Try.ntmps49
  go_wp2
  go_ret
  exact ⟨rfl, rfl⟩

/-- the same shards in another order -/
def Mixed (l : Nat) (f : Nat → Int) (Z : Nat → Nat → Int) (L : Nat → Nat) (fs : Nat → Int) (Zs : Nat → Nat → Int) (Ls : Nat → Nat) : Prop := ∃ s, IsPerm l s ∧ ∀ i, i < l → fs i = f (s i) ∧ Zs i = Z (s i) ∧ Ls i = L (s i)

theorem order_mixed (B A : Option Addr) (l cb ca : Nat) (R : Nat → Option Addr) (L C : Nat → Nat) (Z : Nat → Nat → Int) (f : Nat → Int) (w : World) (hb : MatAt w B l R L C Z) (ha : IntsAt w A l f) (hl0 : 0 < l) (hl : l ≤ 32) :
    Calls Try.prog 47 #[.slice B l cb, .slice A l ca] w fun e w' => ∃ (b1 o1 b2 o2 c1 c2 : Nat) (Rs : Nat → Option Addr) (Ls Cs : Nat → Nat) (Zs : Nat → Nat → Int) (fs : Nat → Int), e = .returned (.tuple #[.slice (some ⟨b1, o1, none⟩) l c1, .slice (some ⟨b2, o2, none⟩) l c2]) ∧ Mixed l f Z L fs Zs Ls ∧ l ≤ c1 ∧ l ≤ c2 ∧ MatAt w' (some ⟨b1, o1, none⟩) l Rs Ls Cs Zs ∧ IntsAt w' (some ⟨b2, o2, none⟩) l fs ∧ Bw w w' := by
  refine (order_any B A l cb ca R L C Z f w hb ha hl0 hl).mono ?_
  rintro e w' ⟨s, A', B', c1, c2, rfl, hs, h1, h2, hm, hi, hw⟩
  obtain ⟨b1, o1, rfl, -⟩ := hm.at (k := 0) hl0
  obtain ⟨b2, o2, rfl, -⟩ := hi.resolve_left (by omega)
  exact ⟨b1, o1, b2, o2, c1, c2, _, _, _, _, _, rfl, ⟨s, hs, fun i _ => ⟨rfl, rfl, rfl⟩⟩, h1, h2, hm, hi, hw⟩

theorem good_mixed {l : Nat} {n : Int} {f fs : Nat → Int} {Z Zs : Nat → Nat → Int} {L Ls : Nat → Nat} (h : Mixed l f Z L fs Zs Ls) (hg : Good l n f) : Good l n fs := by
  obtain ⟨s, hs, he⟩ := h
  intro i hi
  refine ⟨by rw [(he i hi).1]; exact (hg _ (hs.1 i hi)).1, fun j hj e => ?_⟩
  rw [(he i hi).1, (he j (by omega)).1] at e
  have hne : s j ≠ s i := fun e => by have := hs.2 j i (by omega) hi e; omega
  exact good_apart hg (hs.1 j (by omega)) (hs.1 i hi) hne e
theorem word_mixed {k l q : Nat} {D : Nat → Nat → Int} {f fs : Nat → Int} {Z Zs : Nat → Nat → Int} {L Ls : Nat → Nat} (h : Mixed l f Z L fs Zs Ls) : WordOf k D l q fs Zs ↔ WordOf k D l q f Z := by
  obtain ⟨s, hs, he⟩ := h
  constructor
  · intro hw
    refine ⟨hw.1, fun i hi c hc => ?_⟩
    obtain ⟨j, hj, e⟩ := La.onto l s hs.1 hs.2 i hi
    have := hw.2 j hj c hc
    rw [(he j hj).1, (he j hj).2.1, e] at this
    exact this
  · intro hw
    refine ⟨hw.1, fun i hi c hc => ?_⟩
    rw [(he i hi).1, (he i hi).2.1]
    exact hw.2 (s i) (hs.1 i hi) c hc
theorem good_le {l : Nat} {n : Int} {f : Nat → Int} (hg : Good l n f) (hn : 0 ≤ n) : (l : Int) ≤ n := by
  have := La.pigeon n.toNat l (fun i => (f i).toNat) (fun i hi => by have := (hg i hi).1; omega) (fun i j hi hj e => by
    apply Classical.byContradiction
    intro hne
    have h1 := (hg i hi).1
    have h2 := (hg j hj).1
    exact good_apart hg hi hj hne (by have e' : (f i).toNat = (f j).toNat := e; omega))
  omega

theorem mixed_len {l q : Nat} {f fs : Nat → Int} {Z Zs : Nat → Nat → Int} {L Ls : Nat → Nat} (h : Mixed l f Z L fs Zs Ls) (hL : ∀ r, r < l → L r = q) : ∀ r, r < l → Ls r = q := by
  obtain ⟨s, hs, he⟩ := h
  intro r hr
  rw [(he r hr).2.2, hL _ (hs.1 r hr)]
theorem wrong_same {k q : Nat} {L : Nat → Nat} (hk : k ≤ 32) (hq : q ≤ 131072) (h : ∀ r, r < k → L r = q) : Wrong k L 0 := by
  refine Or.inr (Or.inr ⟨rfl, hk, fun r hr => by rw [h r hr]; exact hq, fun r hr => ?_⟩)
  rw [h r hr, h 0 (by omega)]
theorem ints_take {w : World} {A : Option Addr} {l k : Nat} {f : Nat → Int} (h : IntsAt w A l f) (hk : k ≤ l) : IntsAt w A k f := by
  rcases h with h0 | ⟨b, o, e, hc⟩
  · exact Or.inl (by omega)
  · exact Or.inr ⟨b, o, e, fun i hi => hc i (by omega)⟩

set_option maxRecDepth 100000 in
set_option maxHeartbeats 4000000 in
theorem solve_ok (k n : Nat) (B A : Option Addr) (l cb ca : Nat) (R : Nat → Option Addr) (L C : Nat → Nat) (Z : Nat → Nat → Int) (f : Nat → Int) (w : World) (hb : MatAt w B l R L C Z) (ha : IntsAt w A l f) (hkn : KnWrong (k : Int) (n : Int) 0) (hg : Good l (n : Int) f) (hkl : k ≤ l) (hrw : RowsWrong l L 0) :
    Calls Try.prog 35 #[.int .i64 (k : Int), .int .i64 (n : Int), .slice B l cb, .slice A l ca] w fun e w' => Bw w w' ∧
      ((e = .returned (.tuple #[.slice none 0 0, .slice none 0 0, .int .i64 31]) ∧ ¬ ∃ D, WordOf k D l (L 0) f Z) ∨
       ∃ v1 v2 D, e = .returned (.tuple #[v1, v2, .int .i64 0]) ∧ MatRes w' w.heap.size v1 n (fun _ => k) (tabI k) ∧ MatRes w' w.heap.size v2 k (fun _ => L 0) D ∧ WordOf k D l (L 0) f Z) := by
  obtain ⟨n1, n2, n3⟩ := kn_ok hkn
  obtain ⟨l1, l2⟩ := rows_ok hrw
  have hl := good_le hg (by omega)
  have hl32 : l ≤ 32 := by omega
  have hq : L 0 ≤ 131072 := l1 0 (by omega)
  have hsh : Hid (ShWrong (k : Int) (n : Int) l l L f 0) := show ShWrong (k : Int) (n : Int) l l L f 0 from Or.inr (Or.inr (Or.inr (Or.inr ⟨hkn, rfl, hg, by omega, hrw⟩)))
  have HL : Hid (∀ r, r < l → L r = L 0) := l2
  have HG : Hid (Good l (n : Int) f) := hg
  have wkk : Hid (Wrong k (fun _ => k) 0) := wrong_lit (c := k) (by omega) (by omega) (fun _ => rfl)
  generalize hqq : L 0 = q at *
  clear l1 l2 hg hl
  go_enter Try.func35, Try.ntmps35
  go_wp2_with (first
    | (go_at_call 46; refine (sh_any (k : Int) (n : Int) B A l l cb ca R L C Z f _ hb ha (by omega) (by omega)).mono ?_; rintro e w1 ⟨x, rfl, hx, hw1⟩; obtain rfl := hx.unique hsh.out; clear hx)
    | (go_at_call 47; refine (order_mixed B A l cb ca R L C Z f _ (hb.keep hw1) (ha.keep hw1) (by omega) hl32).mono ?_; rintro e w2 ⟨b1, o1, b2, o2, c1, c2, Rs, Ls, Cs, Zs, fs, rfl, hmix, hc1, hc2, hm2, hi2, hw2⟩; have kc1 : (k : Int) ≤ (c1 : Int) := (by omega); have kc2 : (k : Int) ≤ (c2 : Int) := (by omega); have HGs : Hid (Good l (n : Int) fs) := good_mixed hmix HG.out; have hfs : Hid (∀ i, i < k → 0 ≤ fs i ∧ fs i < (n : Int)) := (fun i hi => (HGs.out i (by omega)).1); have HLs : Hid (∀ r, r < l → Ls r = q) := mixed_len hmix HL.out; have wls : Hid (Wrong k Ls 0) := wrong_same (by omega) hq (fun r hr => HLs.out r (by omega)))
    | (go_at_call 11; refine (tab_ok k n hkn _).mono ?_; rintro e w3 ⟨v3, rfl, hr3, hw3⟩; obtain ⟨A3, cap3, R3, C3, rfl, hm3⟩ := hr3; have hm2a := hm2.keep hw3; have hi2a := hi2.keep hw3)
    | (go_at_call 48; refine (pick_any A3 _ n k _ _ R3 _ C3 _ fs _ hm3.mat (ints_take hi2a hkl) (by omega) hfs).mono ?_; rintro e w4 ⟨g4, rfl, hm4, hw4⟩; have hm2b := hm2a.keep hw4)
    | (go_at_call 27; refine (iv_ok _ k _ _ (fun _ => k) _ _ _ hm4 wkk.out (cols_const (by omega) rfl)).mono ?_; rintro e w5 ⟨v5, x5, kk, Y, rfl, hr5, hv5, hw5⟩; obtain ⟨e0, e1, hat0⟩ := back_math (f := fs) (by omega) (fun i hi => by have := hfs.out i hi; omega) (fun a b h1 h2 h3 => good_apart HGs.out (by omega) (by omega) h3) (fun i _ j _ => rfl) hv5 hr5.bd; subst x5; subst kk; have HA : Hid (∀ (Z : Nat → Nat → Int) (j c : Nat), j < k → (∀ t, t < k → 0 ≤ Z t c ∧ Z t c < 256) → prodZ k Y Z j c = atZ k fs Z (j : Int) c) := hat0; clear hat0 hv5; obtain ⟨A5, cap5, R5, C5, rfl, hm5⟩ := hr5; have hm2c := hm2b.keep hw5)
    | (go_at_call 28; refine (mul_ok A5 _ k k q _ _ R5 Rs _ _ Ls Cs Y Zs _ hm5.mat (mat_take hm2c hkl) wkk.out wls.out (cols_const (by omega) rfl) (cols_const (by omega) (HLs.out 0 (by omega)))).mono ?_; rintro e w6 ⟨v6, rfl, hr6, hw6⟩; have hr6a := hr6.vals (Z' := fun j c => atZ k fs Zs (j : Int) c) (fun r _ c => atZ_bd _ _ _ _ _) (fun r hr c _ => (HA.out Zs r c hr (fun t ht => (hm2.2 t (by omega)).2 c)).symm); obtain ⟨A6, cap6, R6, C6, rfl, hm6⟩ := hr6a; clear hr6))
  have hw36 : Bw w3 w6 := hw4.trans (hw5.trans hw6)
  have hm3f := hm3.keep hw36
  have hi2f := hi2a.keep hw36
  have hm2f := hm2a.keep hw36
  have hw06 : Bw w w6 := hw1.trans (hw2.trans (hw3.trans hw36))
  have hsz2 := (hw1.trans hw2).size
  have hsz5 := (hw1.trans (hw2.trans (hw3.trans (hw4.trans hw5)))).size
  have HB : Hid (∀ i, i < l → ∀ c, 0 ≤ Zs i c ∧ Zs i c < 256) := fun i hi => (hm2.2 i hi).2
  clear hm3 hm2a hi2a hm4 hm2b hm5 hm2c hm2 hi2 HA
  go_loopw [8, 9, 15] (fun tv dv i wr => ∃ t : Nat, k ≤ t ∧ t ≤ l ∧ i = .int .i64 t ∧ tv = .slice A3 n cap3 ∧ dv = .slice A6 k cap6 ∧ Hid (∀ i, k ≤ i → i < t → ∀ c, c < q → atZ k fs Zs (fs i) c = Zs i c) ∧ Bw w6 wr) (fun _ _ i _ => l - (intOf i).toNat)
  case atStart => exact ⟨k, Nat.le_refl _, hkl, rfl, rfl, rfl, (fun i h1 h2 => by omega), Bw.refl _⟩
  case round =>
    obtain ⟨t, hkt, htl, rfl, rfl, rfl, hon, hw⟩ := hrel
    by_cases hlt : t < l
    · obtain ⟨y, hy⟩ : ∃ y : Nat, fs t = (y : Int) := ⟨(fs t).toNat, by have := (HGs.out t hlt).1; omega⟩
      have hyn : y < n := by have := (HGs.out t hlt).1; omega
      obtain ⟨b1', o1', e1, hc1'⟩ := (hm2f.keep hw).at hlt
      cases e1
      have h1 := hc1' t hlt
      rw [HLs.out t hlt] at h1
      obtain ⟨b2', o2', e2, hc2'⟩ := (hi2f.keep hw).resolve_left (by omega)
      cases e2
      have h2 := hc2' t hlt
      rw [hy] at h2
      have hrow := hm2f.2 t hlt
      rw [HLs.out t hlt] at hrow
      have t0 : (0 : Int) ≤ (t : Int) := Int.natCast_nonneg _
      have t1 : (t : Int) < (l : Int) := by omega
      have HW : Hid (∀ c, wordI k (fun j c => atZ k fs Zs (j : Int) c) y c = atZ k fs Zs (fs t) c) := fun c => by
        rw [hy]
        exact word_at (by omega) (by omega) (fun i hi => by have := hfs.out i hi; omega) (fun j hj => HB.out j (by omega) c)
      clear hc1' hc2'
      by_cases he : ∀ c, c < q → atZ k fs Zs (fs t) c = Zs t c
      · have HE : Hid (∀ c, c < q → atZ k fs Zs (fs t) c = Zs t c) := he
        clear he hy
        go_wp2_with (first
          | (go_at_call 36; refine (shard_ok A3 A6 k n q _ _ y R3 R6 C3 (fun _ => q) C6 _ _ (hm3f.mat.keep hw) (hm6.mat.keep hw) (by omega) (by omega) hq (fun _ _ => rfl) hyn).mono ?_; rintro e w7 ⟨A7, cap7, rfl, hr7, hw7⟩; have k1 := cell_bw hw7 h1)
          | (go_at_call 49; refine (eq_any A7 (Rs t) q _ q _ _ (Zs t) _ hr7.row (hrow.keep (hw.trans hw7)) true ⟨fun _ => ⟨rfl, fun c hc => by rw [HW.out c]; exact HE.out c hc⟩, fun _ => rfl⟩).mono ?_; rintro e w' ⟨rfl, hw'⟩; subst w'))
        go_roundw
        case rel => exact ⟨t + 1, by omega, by omega, by go_num, rfl, rfl, (fun i h1 h2 c hc => by by_cases e : i = t; (subst e; exact HE.out c hc); exact hon i h1 (by omega) c hc), hw.trans hw7⟩
        case measure => simp [intOf]; omega
      · have HE : Hid (¬ ∀ c, c < q → atZ k fs Zs (fs t) c = Zs t c) := he
        have HY : Hid (fs t = (y : Int)) := hy
        clear he hy
        go_wp2_with (first
          | (go_at_call 36; refine (shard_ok A3 A6 k n q _ _ y R3 R6 C3 (fun _ => q) C6 _ _ (hm3f.mat.keep hw) (hm6.mat.keep hw) (by omega) (by omega) hq (fun _ _ => rfl) hyn).mono ?_; rintro e w7 ⟨A7, cap7, rfl, hr7, hw7⟩; have k1 := cell_bw hw7 h1)
          | (go_at_call 49; refine (eq_any A7 (Rs t) q _ q _ _ (Zs t) _ hr7.row (hrow.keep (hw.trans hw7)) false ⟨fun h => (by cases h), fun h => absurd (fun c hc => by rw [← HW.out c]; exact h.2 c hc) HE.out⟩).mono ?_; rintro e w' ⟨rfl, hw'⟩; subst w'))
        go_ret3
        refine ⟨hw06.trans (hw.trans hw7), Or.inl ⟨rfl, ?_⟩⟩
        rintro ⟨D', hD⟩
        have hD2 := (word_mixed hmix).2 hD
        refine HE.out (fun c hc => ?_)
        have h5 := wordof_at (by omega) n3 HGs.out hkl hD2 (x := y) (by omega) hc
        rw [← HY.out] at h5
        rw [h5, ← hD2.2 t hlt c hc, HY.out, Int.toNat_natCast]
    · have ek : l = t := by omega
      subst ek
      have hword := (word_mixed hmix).1 (wordof_of (q := q) (by omega) n3 HGs.out hkl HB.out hon.out)
      go_wp2
      go_ret3
      exact ⟨hw06.trans hw, Or.inr ⟨_, _, _, rfl, MatRes.below ⟨A3, cap3, R3, C3, rfl, hm3f.keep hw⟩ hsz2, MatRes.below ⟨A6, cap6, R6, C6, rfl, hm6.keep hw⟩ hsz5, hword⟩⟩

theorem solve_bad (k n : Int) (B A : Option Addr) (m l cb ca : Nat) (R : Nat → Option Addr) (L C : Nat → Nat) (Z : Nat → Nat → Int) (f : Nat → Int) (w : World) (hb : MatAt w B m R L C Z) (ha : IntsAt w A l f) (hl : l ≤ 140737488355328) (hm : m ≤ 140737488355328) (x : Int) (hx : ShWrong k n m l L f x) (h0 : x ≠ 0) :
    Calls Try.prog 35 #[.int .i64 k, .int .i64 n, .slice B m cb, .slice A l ca] w fun e w' => e = .returned (.tuple #[.slice none 0 0, .slice none 0 0, .int .i64 x]) ∧ Bw w w' := by
  have e2 : (x != 0) = true := by simpa using h0
  go_enter Try.func35, Try.ntmps35
  go_wp2_with (go_at_call 46; refine (sh_any k n B A m l cb ca R L C Z f _ hb ha hl hm).mono ?_; rintro e w1 ⟨y, rfl, hy, hw1⟩; obtain rfl := hy.unique hx)
  go_ret3
  exact ⟨rfl, hw1⟩

theorem solve_all (k n : Int) (B A : Option Addr) (m l cb ca : Nat) (R : Nat → Option Addr) (L C : Nat → Nat) (Z : Nat → Nat → Int) (f : Nat → Int) (w : World) (hb : MatAt w B m R L C Z) (ha : IntsAt w A l f) (hl : l ≤ 140737488355328) (hm : m ≤ 140737488355328) :
    Calls Try.prog 35 #[.int .i64 k, .int .i64 n, .slice B m cb, .slice A l ca] w fun e w' => ∃ v1 v2 x kk nn D, e = .returned (.tuple #[v1, v2, .int .i64 x]) ∧ MatRes w' w.heap.size v1 nn (fun _ => k.toNat) (tabI k.toNat) ∧ MatRes w' w.heap.size v2 kk (fun _ => L 0) D ∧ DecSays k n m l L f Z x kk D ∧ (x = 0 → (nn : Int) = n) ∧ Bw w w' := by
  obtain ⟨x, hx⟩ := sh_some k n m l L f
  by_cases h0 : x = 0
  · subst h0
    obtain ⟨h1, rfl, h3, h4, h5⟩ := sh_ok hx
    have hk := kn_ok h1
    obtain ⟨k', rfl⟩ := Int.eq_ofNat_of_zero_le (show 0 ≤ k by omega)
    obtain ⟨n', rfl⟩ := Int.eq_ofNat_of_zero_le (show 0 ≤ n by omega)
    refine (solve_ok k' n' B A m cb ca R L C Z f w hb ha h1 h3 (by omega) h5).mono ?_
    rintro e w' ⟨hw, ⟨he, hno⟩ | ⟨v1, v2, D, he, hm1, hm2, hword⟩⟩
    · exact ⟨_, _, 31, 0, 0, Z, he, res_none _ _ _ _, res_none _ _ _ _, Or.inr (Or.inl ⟨hx, rfl, rfl, hno⟩), (fun h => by cases h), hw⟩
    · exact ⟨v1, v2, 0, k', n', D, he, hm1, hm2, Or.inr (Or.inr ⟨hx, rfl, rfl, hword⟩), (fun _ => rfl), hw⟩
  · refine (solve_bad k n B A m l cb ca R L C Z f w hb ha hl hm x hx h0).mono ?_
    rintro e w' ⟨he, hw⟩
    exact ⟨_, _, x, 0, 0, Z, he, res_none _ _ _ _, res_none _ _ _ _, Or.inl ⟨hx, h0, rfl⟩, (fun h => absurd h h0), hw⟩

theorem dec_all (k n : Int) (B A : Option Addr) (m l cb ca : Nat) (R : Nat → Option Addr) (L C : Nat → Nat) (Z : Nat → Nat → Int) (f : Nat → Int) (w : World) (hb : MatAt w B m R L C Z) (ha : IntsAt w A l f) (hl : l ≤ 140737488355328) (hm : m ≤ 140737488355328) :
    Calls Try.prog 18 #[.int .i64 k, .int .i64 n, .slice B m cb, .slice A l ca] w fun e w' => ∃ v x kk D, e = .returned (.tuple #[v, .int .i64 x]) ∧ MatRes w' w.heap.size v kk (fun _ => L 0) D ∧ DecSays k n m l L f Z x kk D ∧ Bw w w' := by
  go_enter Try.func18, Try.ntmps18
  go_wp2_with (go_at_call 35; refine (solve_all k n B A m l cb ca R L C Z f _ hb ha hl hm).mono ?_; rintro e w1 ⟨v1, v2, x, kk, nn, D, rfl, hm1, hm2, hs, hn, hw1⟩)
  go_ret2
  exact ⟨v2, x, kk, D, rfl, hm2, hs, hw1⟩

/-- what Rebuild says -/
def RebSays (k n : Int) (m l : Nat) (L : Nat → Nat) (f : Nat → Int) (Z : Nat → Nat → Int) (want x : Int) (q : Nat) (row : Nat → Int) : Prop := ∃ (x0 : Int) (kk : Nat) (D : Nat → Nat → Int), DecSays k n m l L f Z x0 kk D ∧
  ((x0 ≠ 0 ∧ x = x0 ∧ q = 0) ∨ (x0 = 0 ∧ (want < 0 ∨ n ≤ want) ∧ x = 1 ∧ q = 0) ∨ (x0 = 0 ∧ 0 ≤ want ∧ want < n ∧ x = 0 ∧ q = L 0 ∧ ∀ c, c < q → row c = wordI k.toNat D want.toNat c))
theorem decsays_ok {k n : Int} {m l : Nat} {L : Nat → Nat} {f : Nat → Int} {Z : Nat → Nat → Int} {kk : Nat} {D : Nat → Nat → Int} (h : DecSays k n m l L f Z 0 kk D) : ShWrong k n m l L f 0 ∧ kk = k.toNat ∧ WordOf k.toNat D l (L 0) f Z := by
  rcases h with ⟨_, h, _⟩ | ⟨_, h, _⟩ | ⟨a, _, b, c⟩
  · exact absurd rfl h
  · cases h
  · exact ⟨a, b, c⟩
theorem rebsays_unique {k n : Int} {m l : Nat} {L : Nat → Nat} {f : Nat → Int} {Z : Nat → Nat → Int} {want x x' : Int} {q q' : Nat} {row row' : Nat → Int} (h : RebSays k n m l L f Z want x q row) (h' : RebSays k n m l L f Z want x' q' row') : x = x' ∧ q = q' ∧ ∀ c, c < q → row c = row' c := by
  obtain ⟨x0, kk, D, hd, h⟩ := h
  obtain ⟨x0', kk', D', hd', h'⟩ := h'
  obtain ⟨e1, e2, e3⟩ := decsays_unique hd hd'
  subst e1
  rcases h with ⟨a, b, c⟩ | ⟨a, b, c, d⟩ | ⟨a, b, c, d, e, g⟩ <;> rcases h' with ⟨a', b', c'⟩ | ⟨a', b', c', d'⟩ | ⟨a', b', c', d', e', g'⟩
  · exact ⟨by omega, by omega, fun c hc => by omega⟩
  · exact absurd a' a
  · exact absurd a' a
  · exact absurd a a'
  · exact ⟨by omega, by omega, fun c hc => by omega⟩
  · omega
  · exact absurd a a'
  · omega
  · refine ⟨by omega, by omega, fun c hc => ?_⟩
    subst a
    rw [g c hc, g' c (by omega)]
    exact word_congr (fun j hj => e3 j (by rw [(decsays_ok hd).2.1]; exact hj) c (by omega))

theorem dec_some (k n : Int) (m l : Nat) (L : Nat → Nat) (f : Nat → Int) (Z : Nat → Nat → Int) : ∃ x kk D, DecSays k n m l L f Z x kk D := by
  obtain ⟨x, hx⟩ := sh_some k n m l L f
  by_cases h0 : x = 0
  · subst h0
    by_cases h1 : ∃ D, WordOf k.toNat D l (L 0) f Z
    · obtain ⟨D, hD⟩ := h1
      exact ⟨0, k.toNat, D, Or.inr (Or.inr ⟨hx, rfl, rfl, hD⟩)⟩
    · exact ⟨31, 0, Z, Or.inr (Or.inl ⟨hx, rfl, rfl, h1⟩)⟩
  · exact ⟨x, 0, Z, Or.inl ⟨hx, h0, rfl⟩⟩

theorem decsays_shape {k n : Int} {m l : Nat} {L : Nat → Nat} {f : Nat → Int} {Z : Nat → Nat → Int} {kk : Nat} {D : Nat → Nat → Int} (h : DecSays k n m l L f Z 0 kk D) : 1 ≤ k ∧ k ≤ n ∧ n ≤ 32 ∧ (kk : Int) = k ∧ L 0 ≤ 131072 := by
  obtain ⟨a, b, c⟩ := decsays_ok h
  obtain ⟨h1, h2, h3, h4, h5⟩ := sh_ok a
  have hk := kn_ok h1
  have := (rows_ok h5).1 0 (by omega)
  exact ⟨hk.1, hk.2.1, hk.2.2, by omega, this⟩

set_option maxRecDepth 100000 in
theorem reb_bad (k n want : Int) (B A : Option Addr) (m l cb ca : Nat) (R : Nat → Option Addr) (L C : Nat → Nat) (Z : Nat → Nat → Int) (f : Nat → Int) (w : World) (hb : MatAt w B m R L C Z) (ha : IntsAt w A l f) (hl : l ≤ 140737488355328) (hm : m ≤ 140737488355328) (x0 : Int) (kk0 : Nat) (D0 : Nat → Nat → Int) (hd : DecSays k n m l L f Z x0 kk0 D0)
    (hc : (x0 != 0) = true ∨ ((x0 != 0) = false ∧ want < 0) ∨ ((x0 != 0) = false ∧ ¬ want < 0 ∧ n ≤ want)) :
    Calls Try.prog 19 #[.int .i64 k, .int .i64 n, .slice B m cb, .slice A l ca, .int .i64 want] w fun e w' => e = .returned (.tuple #[.slice none 0 0, .int .i64 (if x0 = 0 then 1 else x0)]) ∧ Bw w w' := by
  rcases hc with c1 | ⟨c1, c2⟩ | ⟨c1, c2, c3⟩
  · have e1 : (if x0 = 0 then (1 : Int) else x0) = x0 := if_neg (by simpa using c1)
    rw [e1]
    go_enter Try.func19, Try.ntmps19
    go_wp2_with (go_at_call 35; refine (solve_all k n B A m l cb ca R L C Z f _ hb ha hl hm).mono ?_; rintro e w1 ⟨v1, v2, x, kk, nn, D, rfl, hm1, hm2, hs, hn, hw1⟩; obtain ⟨e2, -, -⟩ := decsays_unique hd hs; subst x)
    go_ret2
    exact ⟨rfl, hw1⟩
  · have e1 : (if x0 = 0 then (1 : Int) else x0) = 1 := if_pos (by simpa using c1)
    rw [e1]
    go_enter Try.func19, Try.ntmps19
    go_wp2_with (go_at_call 35; refine (solve_all k n B A m l cb ca R L C Z f _ hb ha hl hm).mono ?_; rintro e w1 ⟨v1, v2, x, kk, nn, D, rfl, hm1, hm2, hs, hn, hw1⟩; obtain ⟨e2, -, -⟩ := decsays_unique hd hs; subst x)
    go_ret2
    exact ⟨rfl, hw1⟩
  · have e1 : (if x0 = 0 then (1 : Int) else x0) = 1 := if_pos (by simpa using c1)
    rw [e1]
    go_enter Try.func19, Try.ntmps19
    go_wp2_with (go_at_call 35; refine (solve_all k n B A m l cb ca R L C Z f _ hb ha hl hm).mono ?_; rintro e w1 ⟨v1, v2, x, kk, nn, D, rfl, hm1, hm2, hs, hn, hw1⟩; obtain ⟨e2, -, -⟩ := decsays_unique hd hs; subst x)
    go_ret2
    exact ⟨rfl, hw1⟩

set_option maxRecDepth 100000 in
theorem reb_ok (k n want : Nat) (B A : Option Addr) (m l cb ca : Nat) (R : Nat → Option Addr) (L C : Nat → Nat) (Z : Nat → Nat → Int) (f : Nat → Int) (w : World) (hb : MatAt w B m R L C Z) (ha : IntsAt w A l f) (hl : l ≤ 140737488355328) (hm : m ≤ 140737488355328) (D0 : Nat → Nat → Int) (hd : DecSays (k : Int) (n : Int) m l L f Z 0 k D0) (hw0 : want < n) :
    Calls Try.prog 19 #[.int .i64 (k : Int), .int .i64 (n : Int), .slice B m cb, .slice A l ca, .int .i64 (want : Int)] w fun e w' => ∃ A' cap D, e = .returned (.tuple #[.slice A' (L 0) cap, .int .i64 0]) ∧ NewRow w' w.heap.size A' (L 0) (wordI k D want) ∧ DecSays (k : Int) (n : Int) m l L f Z 0 k D ∧ Bw w w' := by
  obtain ⟨k1, k2, k3, k4, k5⟩ := decsays_shape hd
  have c1 : ¬ (want : Int) < 0 := by omega
  have c2 : ¬ (n : Int) ≤ (want : Int) := by omega
  go_enter Try.func19, Try.ntmps19
  go_wp2_with (first
    | (go_at_call 35; refine (solve_all (k : Int) (n : Int) B A m l cb ca R L C Z f _ hb ha hl hm).mono ?_; rintro e w1 ⟨v1, v2, x, kk, nn, D, rfl, hm1, hm2, hs, hn, hw1⟩; obtain ⟨e2, e3, -⟩ := decsays_unique hd hs; subst x; subst kk; have e4 : nn = n := (by have := hn rfl; omega); subst nn; obtain ⟨A1, cap1, R1, C1, rfl, hr1⟩ := hm1; obtain ⟨A2, cap2, R2, C2, rfl, hr2⟩ := hm2)
    | (go_at_call 36; refine (shard_ok A1 A2 k n (L 0) _ _ want R1 R2 C1 (fun _ => L 0) C2 D _ hr1.mat hr2.mat (by omega) (by omega) k5 (fun _ _ => rfl) hw0).mono ?_; rintro e w3 ⟨A3, cap3, rfl, hr3, hw3⟩))
  go_ret2
  have hsz := hw1.size
  refine ⟨A3, cap3, D, rfl, ⟨hr3.row, ?_⟩, hs, hw1.trans hw3⟩
  rcases hr3.new with h0 | ⟨g, o, e, h1, h2⟩
  · exact Or.inl h0
  · exact Or.inr ⟨g, o, e, by omega, h2⟩

theorem reb_all (k n want : Int) (B A : Option Addr) (m l cb ca : Nat) (R : Nat → Option Addr) (L C : Nat → Nat) (Z : Nat → Nat → Int) (f : Nat → Int) (w : World) (hb : MatAt w B m R L C Z) (ha : IntsAt w A l f) (hl : l ≤ 140737488355328) (hm : m ≤ 140737488355328) :
    Calls Try.prog 19 #[.int .i64 k, .int .i64 n, .slice B m cb, .slice A l ca, .int .i64 want] w fun e w' => ∃ A' cap x q row, e = .returned (.tuple #[.slice A' q cap, .int .i64 x]) ∧ NewRow w' w.heap.size A' q row ∧ RebSays k n m l L f Z want x q row ∧ Bw w w' := by
  obtain ⟨x0, kk, D, hd⟩ := dec_some k n m l L f Z
  have nr : ∀ w' : World, NewRow w' w.heap.size none 0 (fun _ => 0) := fun w' => ⟨row_none w', Or.inl rfl⟩
  by_cases h0 : x0 = 0
  · by_cases h1 : want < 0 ∨ n ≤ want
    · refine (reb_bad k n want B A m l cb ca R L C Z f w hb ha hl hm x0 kk D hd ?_).mono ?_
      · by_cases h2 : want < 0
        · exact Or.inr (Or.inl ⟨by simpa using h0, h2⟩)
        · exact Or.inr (Or.inr ⟨by simpa using h0, h2, h1.resolve_left h2⟩)
      · rintro e w' ⟨rfl, hw⟩
        rw [if_pos h0]
        exact ⟨none, 0, 1, 0, _, rfl, nr w', ⟨x0, kk, D, hd, Or.inr (Or.inl ⟨h0, h1, rfl, rfl⟩)⟩, hw⟩
    · subst h0
      obtain ⟨k1, k2, k3, k4, k5⟩ := decsays_shape hd
      obtain ⟨n', rfl⟩ := Int.eq_ofNat_of_zero_le (show 0 ≤ n by omega)
      obtain ⟨want', rfl⟩ := Int.eq_ofNat_of_zero_le (show 0 ≤ want by omega)
      subst k4
      refine (reb_ok kk n' want' B A m l cb ca R L C Z f w hb ha hl hm D hd (by omega)).mono ?_
      rintro e w' ⟨A', cap, D', rfl, hr, hd', hw⟩
      exact ⟨A', cap, 0, L 0, _, rfl, hr, ⟨0, kk, D', hd', Or.inr (Or.inr ⟨rfl, by omega, by omega, rfl, rfl, fun c _ => rfl⟩)⟩, hw⟩
  · refine (reb_bad k n want B A m l cb ca R L C Z f w hb ha hl hm x0 kk D hd (Or.inl (by simpa using h0))).mono ?_
    rintro e w' ⟨rfl, hw⟩
    rw [if_neg h0]
    exact ⟨none, 0, x0, 0, _, rfl, nr w', ⟨x0, kk, D, hd, Or.inl ⟨h0, rfl, rfl⟩⟩, hw⟩

end Go.Proofs.Ytbhbdhkifkmkbaa

/- What the document says of a word of four shards: the statements' own wakes. -/
namespace Go.Proofs.Ytbhbdhkifkmkbaa
open Go.RowKit

theorem row_lit1 (W : World) (a : Int) (ha : 0 ≤ a ∧ a < 256) : RowAt (W.alloc (.cells #[.int .u8 a] 5)) (some ⟨W.heap.size, 0, none⟩) 1 (cc a) := row_lit W #[.int .u8 a] 1 (cc a) (fun _ => ha) (fun i hi => by obtain rfl : i = 0 := (by omega); rfl)

theorem lit2 (w : World) (a b : Int) (v : Nat → Int) (hv : ∀ i, 0 ≤ v i ∧ v i < 256) (ha : v 0 = a) (hb : v 1 = b) :
    MatAt (((w.alloc (.cells #[.int .u8 a] 5)).alloc (.cells #[.int .u8 b] 5)).alloc (.cells #[.slice (some ⟨w.heap.size, 0, none⟩) 1 1, .slice (some ⟨w.heap.size + 1, 0, none⟩) 1 1] 37)) (some ⟨w.heap.size + 1 + 1, 0, none⟩) 2
      (fun r => some ⟨w.heap.size + r, 0, none⟩) (fun _ => 1) (fun _ => 1) (fun r => cc (v r)) ∧
    Bw w (((w.alloc (.cells #[.int .u8 a] 5)).alloc (.cells #[.int .u8 b] 5)).alloc (.cells #[.slice (some ⟨w.heap.size, 0, none⟩) 1 1, .slice (some ⟨w.heap.size + 1, 0, none⟩) 1 1] 37)) := by
  subst ha hb
  have r0 := row_lit1 w (v 0) (hv 0)
  have r1 := row_lit1 (w.alloc (.cells #[.int .u8 (v 0)] 5)) (v 1) (hv 1)
  rw [size_alloc] at r1
  generalize hW1 : w.alloc (.cells #[.int .u8 (v 0)] 5) = W1 at *
  have s1 : W1.heap.size = w.heap.size + 1 := by rw [← hW1, size_alloc]
  have b01 : Bw w W1 := by rw [← hW1]; exact (Below.refl _ _).alloc (Nat.le_refl _) _
  generalize hW2 : W1.alloc (.cells #[.int .u8 (v 1)] 5) = W2 at *
  have s2 : W2.heap.size = w.heap.size + 1 + 1 := by rw [← hW2, size_alloc, s1]
  have b12 : Bw W1 W2 := by rw [← hW2]; exact (Below.refl _ _).alloc (Nat.le_refl _) _
  generalize hW4 : W2.alloc (.cells #[.slice (some ⟨w.heap.size, 0, none⟩) 1 1, .slice (some ⟨w.heap.size + 1, 0, none⟩) 1 1] 37) = W4
  have b24 : Bw W2 W4 := by rw [← hW4]; exact (Below.refl _ _).alloc (Nat.le_refl _) _
  refine ⟨⟨Or.inr ⟨_, _, rfl, fun r hr => ?_⟩, fun r hr => ?_⟩, b01.trans (b12.trans b24)⟩
  · rw [Nat.zero_add, ← hW4, ← s2, cell_of_row _ _ r _ _ _ (heap_alloc_new W2 _)]
    rcases (show r = 0 ∨ r = 1 by omega) with rfl | rfl <;> rfl
  · rcases (show r = 0 ∨ r = 1 by omega) with rfl | rfl
    · exact r0.keep (b12.trans b24)
    · exact r1.keep b24

theorem lit3 (w : World) (a b c : Int) (v : Nat → Int) (hv : ∀ i, 0 ≤ v i ∧ v i < 256) (ha : v 0 = a) (hb : v 1 = b) (hc : v 2 = c) :
    MatAt ((((w.alloc (.cells #[.int .u8 a] 5)).alloc (.cells #[.int .u8 b] 5)).alloc (.cells #[.int .u8 c] 5)).alloc (.cells #[.slice (some ⟨w.heap.size, 0, none⟩) 1 1, .slice (some ⟨w.heap.size + 1, 0, none⟩) 1 1, .slice (some ⟨w.heap.size + 1 + 1, 0, none⟩) 1 1] 37)) (some ⟨w.heap.size + 1 + 1 + 1, 0, none⟩) 3
      (fun r => some ⟨w.heap.size + r, 0, none⟩) (fun _ => 1) (fun _ => 1) (fun r => cc (v r)) ∧
    Bw w ((((w.alloc (.cells #[.int .u8 a] 5)).alloc (.cells #[.int .u8 b] 5)).alloc (.cells #[.int .u8 c] 5)).alloc (.cells #[.slice (some ⟨w.heap.size, 0, none⟩) 1 1, .slice (some ⟨w.heap.size + 1, 0, none⟩) 1 1, .slice (some ⟨w.heap.size + 1 + 1, 0, none⟩) 1 1] 37)) := by
  subst ha hb hc
  have r0 := row_lit1 w (v 0) (hv 0)
  generalize hW1 : w.alloc (.cells #[.int .u8 (v 0)] 5) = W1 at *
  have s1 : W1.heap.size = w.heap.size + 1 := by rw [← hW1, size_alloc]
  have b01 : Bw w W1 := by rw [← hW1]; exact (Below.refl _ _).alloc (Nat.le_refl _) _
  have r1 := row_lit1 W1 (v 1) (hv 1)
  generalize hW2 : W1.alloc (.cells #[.int .u8 (v 1)] 5) = W2 at *
  have s2 : W2.heap.size = w.heap.size + 1 + 1 := by rw [← hW2, size_alloc, s1]
  have b12 : Bw W1 W2 := by rw [← hW2]; exact (Below.refl _ _).alloc (Nat.le_refl _) _
  have r2 := row_lit1 W2 (v 2) (hv 2)
  generalize hW3 : W2.alloc (.cells #[.int .u8 (v 2)] 5) = W3 at *
  have s3 : W3.heap.size = w.heap.size + 1 + 1 + 1 := by rw [← hW3, size_alloc, s2]
  have b23 : Bw W2 W3 := by rw [← hW3]; exact (Below.refl _ _).alloc (Nat.le_refl _) _
  rw [s1] at r1
  rw [s2] at r2
  generalize hW4 : W3.alloc (.cells #[.slice (some ⟨w.heap.size, 0, none⟩) 1 1, .slice (some ⟨w.heap.size + 1, 0, none⟩) 1 1, .slice (some ⟨w.heap.size + 1 + 1, 0, none⟩) 1 1] 37) = W4
  have b34 : Bw W3 W4 := by rw [← hW4]; exact (Below.refl _ _).alloc (Nat.le_refl _) _
  refine ⟨⟨Or.inr ⟨_, _, rfl, fun r hr => ?_⟩, fun r hr => ?_⟩, b01.trans (b12.trans (b23.trans b34))⟩
  · rw [Nat.zero_add, ← hW4, ← s3, cell_of_row _ _ r _ _ _ (heap_alloc_new W3 _)]
    rcases (show r = 0 ∨ r = 1 ∨ r = 2 by omega) with rfl | rfl | rfl <;> rfl
  · rcases (show r = 0 ∨ r = 1 ∨ r = 2 by omega) with rfl | rfl | rfl
    · exact r0.keep (b12.trans (b23.trans b34))
    · exact r1.keep (b23.trans b34)
    · exact r2.keep b34

theorem lit4 (w : World) (a b c d : Int) (v : Nat → Int) (hv : ∀ i, 0 ≤ v i ∧ v i < 256) (ha : v 0 = a) (hb : v 1 = b) (hc : v 2 = c) (hd : v 3 = d) :
    MatAt (((((w.alloc (.cells #[.int .u8 a] 5)).alloc (.cells #[.int .u8 b] 5)).alloc (.cells #[.int .u8 c] 5)).alloc (.cells #[.int .u8 d] 5)).alloc (.cells #[.slice (some ⟨w.heap.size, 0, none⟩) 1 1, .slice (some ⟨w.heap.size + 1, 0, none⟩) 1 1, .slice (some ⟨w.heap.size + 1 + 1, 0, none⟩) 1 1, .slice (some ⟨w.heap.size + 1 + 1 + 1, 0, none⟩) 1 1] 37)) (some ⟨w.heap.size + 1 + 1 + 1 + 1, 0, none⟩) 4
      (fun r => some ⟨w.heap.size + r, 0, none⟩) (fun _ => 1) (fun _ => 1) (fun r => cc (v r)) ∧
    Bw w (((((w.alloc (.cells #[.int .u8 a] 5)).alloc (.cells #[.int .u8 b] 5)).alloc (.cells #[.int .u8 c] 5)).alloc (.cells #[.int .u8 d] 5)).alloc (.cells #[.slice (some ⟨w.heap.size, 0, none⟩) 1 1, .slice (some ⟨w.heap.size + 1, 0, none⟩) 1 1, .slice (some ⟨w.heap.size + 1 + 1, 0, none⟩) 1 1, .slice (some ⟨w.heap.size + 1 + 1 + 1, 0, none⟩) 1 1] 37)) := by
  subst ha hb hc hd
  have r0 := row_lit1 w (v 0) (hv 0)
  generalize hW1 : w.alloc (.cells #[.int .u8 (v 0)] 5) = W1 at *
  have s1 : W1.heap.size = w.heap.size + 1 := by rw [← hW1, size_alloc]
  have b01 : Bw w W1 := by rw [← hW1]; exact (Below.refl _ _).alloc (Nat.le_refl _) _
  have r1 := row_lit1 W1 (v 1) (hv 1)
  generalize hW2 : W1.alloc (.cells #[.int .u8 (v 1)] 5) = W2 at *
  have s2 : W2.heap.size = w.heap.size + 1 + 1 := by rw [← hW2, size_alloc, s1]
  have b12 : Bw W1 W2 := by rw [← hW2]; exact (Below.refl _ _).alloc (Nat.le_refl _) _
  have r2 := row_lit1 W2 (v 2) (hv 2)
  generalize hW3 : W2.alloc (.cells #[.int .u8 (v 2)] 5) = W3 at *
  have s3 : W3.heap.size = w.heap.size + 1 + 1 + 1 := by rw [← hW3, size_alloc, s2]
  have b23 : Bw W2 W3 := by rw [← hW3]; exact (Below.refl _ _).alloc (Nat.le_refl _) _
  have r3 := row_lit1 W3 (v 3) (hv 3)
  generalize hW3' : W3.alloc (.cells #[.int .u8 (v 3)] 5) = W3' at *
  have s3' : W3'.heap.size = w.heap.size + 1 + 1 + 1 + 1 := by rw [← hW3', size_alloc, s3]
  have b33 : Bw W3 W3' := by rw [← hW3']; exact (Below.refl _ _).alloc (Nat.le_refl _) _
  rw [s1] at r1
  rw [s2] at r2
  rw [s3] at r3
  generalize hW4 : W3'.alloc (.cells #[.slice (some ⟨w.heap.size, 0, none⟩) 1 1, .slice (some ⟨w.heap.size + 1, 0, none⟩) 1 1, .slice (some ⟨w.heap.size + 1 + 1, 0, none⟩) 1 1, .slice (some ⟨w.heap.size + 1 + 1 + 1, 0, none⟩) 1 1] 37) = W4
  have b34 : Bw W3' W4 := by rw [← hW4]; exact (Below.refl _ _).alloc (Nat.le_refl _) _
  refine ⟨⟨Or.inr ⟨_, _, rfl, fun r hr => ?_⟩, fun r hr => ?_⟩, b01.trans (b12.trans (b23.trans (b33.trans b34)))⟩
  · rw [Nat.zero_add, ← hW4, ← s3', cell_of_row _ _ r _ _ _ (heap_alloc_new W3' _)]
    rcases (show r = 0 ∨ r = 1 ∨ r = 2 ∨ r = 3 by omega) with rfl | rfl | rfl | rfl <;> rfl
  · rcases (show r = 0 ∨ r = 1 ∨ r = 2 ∨ r = 3 by omega) with rfl | rfl | rfl | rfl
    · exact r0.keep (b12.trans (b23.trans (b33.trans b34)))
    · exact r1.keep (b23.trans (b33.trans b34))
    · exact r2.keep (b33.trans b34)
    · exact r3.keep b34

theorem ints_lit (W : World) (cs : Array Value) (n : Nat) (f : Nat → Int) (h : ∀ i, i < n → cs[i]? = some (.int .i64 (f i))) : IntsAt (W.alloc (.cells cs 3)) (some ⟨W.heap.size, 0, none⟩) n f ∧ Bw W (W.alloc (.cells cs 3)) :=
  ⟨Or.inr ⟨_, _, rfl, fun i hi => by rw [Nat.zero_add, cell_of_row _ _ i _ _ _ (heap_alloc_new W _)]; exact h i hi⟩, (Below.refl _ _).alloc (Nat.le_refl _) _⟩

/-- the word of the document's example, and other columns that are asked -/
def d57 (i : Nat) : Int := if i = 0 then 5 else 7
def w57 (i : Nat) : Int := if i = 0 then 5 else if i = 1 then 7 else if i = 2 then 1 else 3
def s35 (i : Nat) : Int := if i = 0 then 3 else 5
def a30 (i : Nat) : Int := if i = 0 then 3 else 0
def s572 (i : Nat) : Int := if i = 0 then 5 else if i = 1 then 7 else 2
theorem d57_bd (i : Nat) : 0 ≤ d57 i ∧ d57 i < 256 := by unfold d57; split <;> omega
theorem w57_bd (i : Nat) : 0 ≤ w57 i ∧ w57 i < 256 := by unfold w57; (repeat' split) <;> omega
theorem s35_bd (i : Nat) : 0 ≤ s35 i ∧ s35 i < 256 := by unfold s35; split <;> omega
theorem s572_bd (i : Nat) : 0 ≤ s572 i ∧ s572 i < 256 := by unfold s572; (repeat' split) <;> omega
theorem word57 (i : Nat) (hi : i < 4) : wordI 2 (fun r => cc (d57 r)) i 0 = w57 i := by
  rcases (show i = 0 ∨ i = 1 ∨ i = 2 ∨ i = 3 by omega) with rfl | rfl | rfl | rfl <;> kernel_rfl

theorem rows_lit (n : Nat) : RowsWrong n (fun _ => 1) 0 := Or.inr (Or.inr ⟨rfl, fun _ _ => (by decide : 1 ≤ 131072), fun _ _ => rfl⟩)
theorem enc57 : EncSays 2 (fun _ => 1) 4 0 4 := Or.inr (Or.inr ⟨Or.inr (Or.inr ⟨rfl, by omega, by omega, by omega⟩), rows_lit 2, rfl, rfl⟩)
theorem sh_lit1 : ShWrong 2 4 2 2 (fun _ => 1) a30 0 := Or.inr (Or.inr (Or.inr (Or.inr ⟨Or.inr (Or.inr ⟨rfl, by omega, by omega, by omega⟩), rfl, fun i hi => by
  rcases (show i = 0 ∨ i = 1 by omega) with rfl | rfl
  · exact ⟨by decide, fun j hj => by omega⟩
  · exact ⟨by decide, fun j hj => by obtain rfl : j = 0 := (by omega); decide⟩, by omega, rows_lit 2⟩)))
theorem dec35 : DecSays 2 4 2 2 (fun _ => 1) a30 (fun r => cc (s35 r)) 0 2 (fun r => cc (d57 r)) := by
  refine Or.inr (Or.inr ⟨sh_lit1, rfl, rfl, fun j _ c => d57_bd j, fun i hi c hc => ?_⟩)
  have hc' : c < 1 := hc
  obtain rfl : c = 0 := by omega
  show wordI 2 (fun r => cc (d57 r)) (a30 i).toNat 0 = s35 i
  rcases (show i = 0 ∨ i = 1 by omega) with rfl | rfl
  · rw [show (a30 0).toNat = 3 by decide, word57 3 (by omega)]; decide
  · rw [show (a30 1).toNat = 0 by decide, word57 0 (by omega)]; decide
theorem sh_lit2 : ShWrong 2 4 3 3 (fun _ => 1) (fun i => (i : Int)) 0 := Or.inr (Or.inr (Or.inr (Or.inr ⟨Or.inr (Or.inr ⟨rfl, by omega, by omega, by omega⟩), rfl, fun i hi => ⟨show (0 : Int) ≤ (i : Int) ∧ (i : Int) < 4 by omega, fun j hj => show (j : Int) ≠ (i : Int) by omega⟩, by omega, rows_lit 3⟩)))
theorem dec572 : DecSays 2 4 3 3 (fun _ => 1) (fun i => (i : Int)) (fun r => cc (s572 r)) 31 0 (fun _ _ => 0) := by
  refine Or.inr (Or.inl ⟨sh_lit2, rfl, rfl, ?_⟩)
  rintro ⟨D, hb, hD⟩
  have h0 : wordI 2 D 0 0 = 5 := hD 0 (by decide) 0 (by decide)
  have h1 : wordI 2 D 1 0 = 7 := hD 1 (by decide) 0 (by decide)
  have h2 : wordI 2 D 2 0 = 2 := hD 2 (by decide) 0 (by decide)
  rw [word_data (by omega) (by omega) (hb 0 (by decide) 0)] at h0
  rw [word_data (by omega) (by omega) (hb 1 (by decide) 0)] at h1
  have h3 : wordI 2 D 2 0 = wordI 2 (fun r => cc (d57 r)) 2 0 := word_congr (fun j hj => by
    rcases (show j = 0 ∨ j = 1 by omega) with rfl | rfl
    · rw [h0]; decide
    · rw [h1]; decide)
  rw [h3, word57 2 (by omega)] at h2
  exact absurd h2 (by decide)

end Go.Proofs.Ytbhbdhkifkmkbaa

/- The statements' own wakes. -/
namespace Go.Proofs.Ytbhbdhkifkmkbaa
open Go.RowKit

theorem dec_lit (B A : Option Addr) (m l cb ca : Nat) (R : Nat → Option Addr) (L C : Nat → Nat) (Z : Nat → Nat → Int) (f : Nat → Int) (w : World) (hb : MatAt w B m R L C Z) (ha : IntsAt w A l f) (hl : l ≤ 3) (hm : m ≤ 3) (x : Int) (kk : Nat) (D : Nat → Nat → Int) (hd : DecSays 2 4 m l L f Z x kk D) :
    Calls Try.prog 18 #[.int .i64 2, .int .i64 4, .slice B m cb, .slice A l ca] w fun e w' => ∃ A' cap R' C' D', e = .returned (.tuple #[.slice A' kk cap, .int .i64 x]) ∧ MatAt w' A' kk R' (fun _ => L 0) C' D' ∧ (∀ j, j < kk → ∀ c, c < L 0 → D j c = D' j c) ∧ Bw w w' := by
  refine (dec_all 2 4 B A m l cb ca R L C Z f w hb ha (by omega) (by omega)).mono ?_
  rintro e w' ⟨v, x', kk', D', rfl, hr, hs, hw⟩
  obtain ⟨rfl, rfl, h3⟩ := decsays_unique hd hs
  obtain ⟨A', cap, R', C', rfl, hn⟩ := hr
  exact ⟨A', cap, R', C', D', rfl, hn.mat, h3, hw⟩
theorem enc_lit (B : Option Addr) (cb : Nat) (R : Nat → Option Addr) (C : Nat → Nat) (Z : Nat → Nat → Int) (w : World) (hb : MatAt w B 2 R (fun _ => 1) C Z) :
    Calls Try.prog 14 #[.slice B 2 cb, .int .i64 4] w fun e w' => ∃ A' cap R' C', e = .returned (.tuple #[.slice A' 4 cap, .int .i64 0]) ∧ MatAt w' A' 4 R' (fun _ => 1) C' (wordI 2 Z) ∧ Bw w w' := by
  refine (enc_res B 2 cb R _ C Z 4 w hb).mono ?_
  rintro e w' ⟨v, x', kk', rfl, hr, hs, hw⟩
  obtain ⟨rfl, rfl⟩ := encsays_unique enc57 hs
  obtain ⟨A', cap, R', C', rfl, hn⟩ := hr
  exact ⟨A', cap, R', C', rfl, hn.mat, hw⟩
theorem same_lit1 : SameM 4 4 (fun _ => 1) (fun _ => 1) (wordI 2 (fun r => cc (d57 r))) (fun r => cc (w57 r)) := by
  refine ⟨rfl, fun r hr => ⟨rfl, fun i hi => ?_⟩⟩
  have hi' : i < 1 := hi
  obtain rfl : i = 0 := by omega
  exact word57 r hr

set_option maxRecDepth 100000 in
set_option maxHeartbeats 2000000 in
theorem wakes3_any : WakeSpec := by
  intro w
  obtain ⟨hA, hwA⟩ := lit2 w 5 7 d57 d57_bd rfl rfl
  go_enter Try.func10, Try.ntmps10
  go_wp2_with (first
    | (go_at_call 14; refine (enc_lit _ _ _ _ _ _ hA).mono ?_; rintro e w1 ⟨A1, cap1, R1, C1, rfl, hm1, hw1⟩; obtain ⟨hB, hwB⟩ := lit2 w1 3 5 s35 s35_bd rfl rfl; obtain ⟨hI, hwI⟩ := ints_lit (((w1.alloc (.cells #[.int .u8 3] 5)).alloc (.cells #[.int .u8 5] 5)).alloc (.cells #[.slice (some ⟨w1.heap.size, 0, none⟩) 1 1, .slice (some ⟨w1.heap.size + 1, 0, none⟩) 1 1] 37)) #[.int .i64 3, .int .i64 0] 2 a30 (fun i hi => by rcases (show i = 0 ∨ i = 1 by omega) with rfl | rfl <;> rfl); have hB' := hB.keep hwI; simp only [size_alloc] at hI; have hw1' := hwB.trans hwI; clear hB)
    | (go_at_call_of 18 w1; refine (dec_lit _ _ 2 2 _ _ _ _ _ _ _ _ hB' hI (by omega) (by omega) 0 2 _ dec35).mono ?_; rintro e w2 ⟨A2, cap2, R2, C2, D2, rfl, hm2, hD2, hw2⟩; obtain ⟨hE, hwE⟩ := lit3 w2 5 7 2 s572 s572_bd rfl rfl rfl; obtain ⟨hJ, hwJ⟩ := ints_lit ((((w2.alloc (.cells #[.int .u8 5] 5)).alloc (.cells #[.int .u8 7] 5)).alloc (.cells #[.int .u8 2] 5)).alloc (.cells #[.slice (some ⟨w2.heap.size, 0, none⟩) 1 1, .slice (some ⟨w2.heap.size + 1, 0, none⟩) 1 1, .slice (some ⟨w2.heap.size + 1 + 1, 0, none⟩) 1 1] 37)) #[.int .i64 0, .int .i64 1, .int .i64 2] 3 (fun i => (i : Int)) (fun i hi => by rcases (show i = 0 ∨ i = 1 ∨ i = 2 by omega) with rfl | rfl | rfl <;> rfl); have hE' := hE.keep hwJ; simp only [size_alloc] at hJ; have hw2' := hwE.trans hwJ; clear hE)
    | (go_at_call_of 18 w2; refine (dec_lit _ _ 3 3 _ _ _ _ _ _ _ _ hE' hJ (by omega) (by omega) 31 0 _ dec572).mono ?_; rintro e w3 ⟨A3, cap3, R3, C3, D3, rfl, hm3, hD3, hw3⟩; obtain ⟨hF, hwF⟩ := lit4 w3 5 7 1 3 w57 w57_bd rfl rfl rfl rfl; have hm1' := hm1.keep (hw1'.trans (hw2.trans (hw2'.trans (hw3.trans hwF)))); have hm2' := hm2.keep (hw2'.trans (hw3.trans hwF)))
    | (go_at_call_of 15 cap1; refine (rsame_any A1 _ 4 4 cap1 _ R1 _ _ C1 _ _ _ _ (by omega) _ hm1' hF).mono ?_; rintro e w4 ⟨x, rfl, hx, hw4⟩; obtain rfl : x = true := hx.2 same_lit1; obtain ⟨hG, hwG⟩ := lit2 w4 5 7 d57 d57_bd rfl rfl; have hm2'' := hm2'.keep (hw4.trans hwG); have HD2 : Hid (∀ (j : Nat), j < 2 → ∀ (c : Nat), c < 1 → cc (d57 j) c = D2 j c) := hD2; clear hx hF hm1' hm3 hD3 hD2 hE' hJ hB' hI hA hm2' hm1 hm2)
    | (go_at_call_of 15 cap2; refine (rsame_any A2 _ 2 2 cap2 _ R2 _ _ C2 _ _ _ _ (by omega) _ hm2'' hG).mono ?_; rintro e w5 ⟨x, rfl, hx, hw5⟩; obtain rfl : x = true := hx.2 ⟨rfl, fun r hr => ⟨rfl, fun i hi => (HD2.out r hr i hi).symm⟩⟩))
  go_ret
  exact ⟨rfl, hwA.trans (hw1.trans (hw1'.trans (hw2.trans (hw2'.trans (hw3.trans (hwF.trans (hw4.trans (hwG.trans hw5))))))))⟩

end Go.Proofs.Ytbhbdhkifkmkbaa

/- The statements' own choice of numbers, and the shards taken at them. -/
namespace Go.Proofs.Ytbhbdhkifkmkbaa
open Go.RowKit

theorem own_set {W : World} {base : Nat} {e : TypeId} {s n : Nat} {v : Value} {xs : List Value} (h : W.ownsRow base e s v n xs) {b j : Nat} {x : Value} (hb : b < base) : (W.setCell ⟨b, j, none⟩ x).ownsRow base e s v n xs := by
  obtain ⟨h1, h2⟩ := h
  refine ⟨h1, ?_⟩
  rcases h2 with h | ⟨g, cap, cur, hv, hg, hc, hr⟩
  · exact Or.inl h
  · exact Or.inr ⟨g, cap, cur, hv, hg, (heap_setCell_other W _ _ _ (by simp only; omega)).trans hc, hr⟩

theorem own_less {W : World} {base base' : Nat} {e : TypeId} {s n : Nat} {v : Value} {xs : List Value} (h : W.ownsRow base e s v n xs) (hb : base' ≤ base) : W.ownsRow base' e s v n xs := by
  obtain ⟨h1, h2⟩ := h
  refine ⟨h1, ?_⟩
  rcases h2 with h | ⟨g, cap, cur, hv, hg, hr⟩
  · exact Or.inl h
  · exact Or.inr ⟨g, cap, cur, hv, Nat.le_trans hb hg, hr⟩

theorem ints_upd (g : Nat → Int) (c : Nat) (x : Int) : intsU (upd g c x) (c + 1) = intsU g c ++ [.int .i64 x] := by
  rw [intsU_succ, upd_at]
  congr 1
  unfold intsU
  refine List.map_congr_left fun i hi => ?_
  rw [upd_ne _ _ (by have := List.mem_range.1 hi; omega)]

/-- numbers that are being chosen -/
structure ChW (W : World) (g0 : Nat) (v : Value) (n c : Nat) (g : Nat → Int) (m : Nat → Bool) : Prop where
  met : MetIs W g0 m
  own : W.ownsRow (g0 + 1) 3 1 v c (intsU g c)
  good : Good c (n : Int) g
  iff : ∀ j, j < 32 → (m j = true ↔ ∃ s, s < c ∧ g s = (j : Int))

theorem ChW.add {W w2 : World} {g0 : Nat} {v v' : Value} {n c p : Nat} {g : Nat → Int} {m : Nat → Bool} (h : ChW W g0 v n c g m) (hp : p < n) (hn : n ≤ 32) (hm : m p = false) {o : Obj} (hgrow : ((W.setCell ⟨g0, p, none⟩ (.bool true)).alloc o).grownBy w2 v.ownBlock)
    (hown : w2.ownsRow (g0 + 1) 3 1 v' (c + 1) (intsU g c ++ [.int .i64 (p : Int)])) : ChW w2 g0 v' n (c + 1) (upd g c (p : Int)) (upd m p true) := by
  refine ⟨?_, by rw [ints_upd]; exact hown, fun i hi => ?_, fun j hj => ?_⟩
  · obtain ⟨cur, h1, h2⟩ := h.met.set (j := p) (by omega)
    have hl := (Array.getElem?_eq_some_iff.1 h1).1
    refine ⟨cur, ?_, h2⟩
    rw [hgrow.block g0 (by rw [size_alloc]; omega) (fun e => ?_)]
    · exact (heap_alloc_old _ _ hl).trans h1
    · have := own_ge h.own g0 e.symm; omega
  · by_cases e : i = c
    · subst e
      rw [upd_at]
      refine ⟨by omega, fun j hj he => ?_⟩
      rw [upd_ne _ _ (by omega)] at he
      have := (h.iff p (by omega)).2 ⟨j, hj, he⟩
      rw [hm] at this; cases this
    · rw [upd_ne _ _ e]
      have := h.good i (by omega)
      refine ⟨this.1, fun j hj => ?_⟩
      rw [upd_ne _ _ (by omega)]
      exact this.2 j hj
  · by_cases e : j = p
    · subst e
      rw [upd_at]
      exact ⟨fun _ => ⟨c, by omega, upd_at _ _ _⟩, fun _ => rfl⟩
    · rw [upd_ne _ _ e]
      refine ⟨fun h1 => ?_, fun ⟨s, hs, hgs⟩ => ?_⟩
      · obtain ⟨s, hs, hgs⟩ := (h.iff j hj).1 h1
        exact ⟨s, by omega, by rw [upd_ne _ _ (by omega)]; exact hgs⟩
      · by_cases e2 : s = c
        · subst e2; rw [upd_at] at hgs; omega
        · rw [upd_ne _ _ e2] at hgs
          exact (h.iff j hj).2 ⟨s, by omega, hgs⟩

/-- who was not left out -/
theorem ChW.full {W : World} {g0 : Nat} {v : Value} {n c : Nat} {g : Nat → Int} {m : Nat → Bool} (h : ChW W g0 v n c g m) (hn : n ≤ 32) (hall : ∀ j, j < n → m j = true) : n ≤ c := by
  have hs : ∀ j, ∃ s, j < n → s < c ∧ g s = (j : Int) := fun j => by
    by_cases hj : j < n
    · obtain ⟨s, hs⟩ := (h.iff j (by omega)).1 (hall j hj)
      exact ⟨s, fun _ => hs⟩
    · exact ⟨0, fun h => absurd h hj⟩
  refine La.pigeon c n (fun j => Classical.choose (hs j)) (fun j hj => (Classical.choose_spec (hs j) hj).1) (fun i j hi hj e => ?_)
  have h1 := (Classical.choose_spec (hs i) hi).2
  have h2 := (Classical.choose_spec (hs j) hj).2
  have e' : Classical.choose (hs i) = Classical.choose (hs j) := e
  rw [e', h2] at h1
  omega

theorem tmod_bd (a : Int) {n : Nat} (hn : 0 < n) : -(n : Int) < a.tmod (n : Int) ∧ a.tmod (n : Int) < (n : Int) := by
  have h := Int.natAbs_tmod a (n : Int)
  have h2 := Nat.mod_lt a.natAbs (show 0 < (n : Int).natAbs by omega)
  omega
theorem tmod_nat {a : Int} {n : Nat} (ha : 0 ≤ a) (hn : 0 < n) : ∃ y : Nat, a.tmod (n : Int) = (y : Int) ∧ y < n := by
  have h1 := tmod_bd a hn
  have h2 : 0 ≤ a.tmod (n : Int) := Int.tmod_nonneg (n : Int) ha
  exact ⟨(a.tmod (n : Int)).toNat, by omega, by omega⟩

set_option maxRecDepth 100000 in
set_option maxHeartbeats 2000000 in
theorem chosen_any (A : Option Addr) (l ca n most : Nat) (f : Nat → Int) (w : World) (ha : IntsAt w A l f) (hf : Hid (∀ i, -9223372036854775808 ≤ f i ∧ f i ≤ 9223372036854775807)) (hn0 : 0 < n) (hn : n ≤ 32) (hmost : most ≤ n) (hl : l ≤ 140737488355328) :
    Calls Try.prog 22 #[.slice A l ca, .int .i64 (n : Int), .int .i64 (most : Int)] w fun e w' => ∃ A' cap g, e = .returned (.slice A' most cap) ∧ IntsAt w' A' most g ∧ Good most (n : Int) g ∧ Bw w w' := by
  obtain ⟨i0, hi0, hz0, hz1, hz2⟩ := info_parts info_int
  have hnew := met_new w
  have hbw : Bw w (w.alloc (.cells (Array.replicate 32 (.bool false)) 59)) := (Below.refl _ _).alloc (Nat.le_refl _) _
  go_enter Try.func22, Try.ntmps22
  go_wp2
  go_loopw [7, 9] (fun v i wr => ∃ (t c : Nat) (g : Nat → Int) (m : Nat → Bool), t ≤ 64 ∧ t ≤ l ∧ c ≤ most ∧ i = .int .i64 t ∧ ChW wr w.heap.size v n c g m ∧ Bw w wr) (fun _ i _ => 64 - (intOf i).toNat)
  case atStart => exact ⟨0, 0, fun _ => 0, fun _ => false, by omega, by omega, by omega, rfl, ⟨hnew, World.ownsRow_nil _ _ _ _, (fun i hi => by omega), fun j hj => ⟨fun h => (by cases h), fun ⟨s, hs, _⟩ => by omega⟩⟩, hbw⟩
  case round =>
    obtain ⟨t, c, g, m, ht, htl, hcm, rfl, hch, hw⟩ := hrel
    obtain ⟨vA, vc, rfl, -, -, -⟩ := ints_of_own hch.own
    by_cases hlt : t < l ∧ t < 64 ∧ c < most
    · obtain ⟨b, o, rfl, hc⟩ := (ha.keep hw).resolve_left (by omega)
      have h1 := hc t hlt.1
      have t0 : (0 : Int) ≤ (t : Int) := Int.natCast_nonneg _
      have t1 : (t : Int) < (l : Int) := by omega
      have t2 : (t : Int) < 64 := by omega
      have t3 : (c : Int) < (most : Int) := by omega
      have n0 : (0 : Int) < (n : Int) := by omega
      have hft := hf.out t
      obtain ⟨z, hz⟩ : ∃ z, (f t).tmod (n : Int) = z := ⟨_, rfl⟩
      have hzb := tmod_bd (f t) (n := n) hn0
      rw [hz] at hzb
      obtain ⟨y, hy, hyn⟩ := tmod_nat (a := z + (n : Int)) (n := n) (by omega) hn0
      obtain ⟨m1, m2⟩ := hch.met.cell (c := y) (by omega)
      have y0 : (0 : Int) ≤ (y : Int) := Int.natCast_nonneg _
      have y1 : (y : Int) < 32 := by omega
      have nz : (n : Int) ≠ 0 := by omega
      have hmx : c + 1 ≤ maxLen := by unfold maxLen; omega
      have hsz := hw.size
      clear hc hft
      cases hm : m y with
      | true =>
        rw [hm] at m1
        go_wp2
        go_roundw
        case rel => exact ⟨t + 1, c, g, m, by omega, by omega, hcm, by go_num, hch, hw⟩
        case measure => simp [intOf]; omega
      | false =>
        rw [hm] at m1
        have hlt0 : w.heap.size < wr.heap.size := by obtain ⟨cur, h2, _⟩ := hch.met; exact (Array.getElem?_eq_some_iff.1 h2).1
        have hb1 : Bw w (wr.setCell ⟨w.heap.size, y, none⟩ (.bool true)) := Bw.put hw (Nat.le_refl _) _ _
        have hs1 : (wr.setCell ⟨w.heap.size, y, none⟩ (.bool true)).heap.size = wr.heap.size := by simp
        have ho1 := own_set (b := w.heap.size) (j := y) (x := .bool true) hch.own (by omega)
        have hnw : ((wr.setCell ⟨w.heap.size, y, none⟩ (.bool true)).alloc (.cells #[.int .i64 (y : Int)] 3)).heap[wr.heap.size]? = some (.cells #[.int .i64 (y : Int)] 3 (0, 0)) := by
          have := heap_alloc_new (wr.setCell ⟨w.heap.size, y, none⟩ (.bool true)) (.cells #[.int .i64 (y : Int)] 3)
          rwa [hs1] at this
        go_wp2_with (at_builtin; refine wpList_append_lies _ (by rfl) (.tmp 44) (.tmp 46) _ (by rfl) (w.heap.size + 1) 3 i0 _ 1 8 Try.underlying33 hi0 hz0 hz1 hz2 rfl (by omega) _ _ _ (by rfl) (ho1.alloc _) ⟨wr.heap.size, 0, none⟩ 1 1 [.int .i64 (y : Int)] (by rfl) (by rfl) (World.news_of_block (cs := #[.int .i64 (y : Int)]) (t := 3) (fr := (0, 0)) hnw) (by simp [Value.oneCell']) (by omega) hmx (by omega) (by simp; omega) (wr.heap.size + 1) (by simp) ?_; intro gg c2 w2 hown2 hgrow2 hat hlt')
        have hch2 := hch.add hyn hn hm hgrow2 hown2
        have hb2 : Bw w w2 := bw_grow hgrow2 (hb1.alloc (by rw [hs1]; exact hsz) _) (by simp; omega) (own_less (ho1.alloc (.cells #[.int .i64 (y : Int)] 3)) (Nat.le_succ _))
        go_roundw
        case rel => exact ⟨t + 1, c + 1, _, _, by omega, by omega, by omega, by go_num, hch2, hb2⟩
        case measure => simp [intOf]; omega
    · rcases (show ¬ (t : Int) < (l : Int) ∨ ((t : Int) < (l : Int) ∧ ¬ (t : Int) < 64) ∨ ((t : Int) < (l : Int) ∧ (t : Int) < 64 ∧ ¬ (c : Int) < (most : Int)) by omega) with h1 | ⟨h1, h2⟩ | ⟨h1, h2, h3⟩
      all_goals
        clear hlt
        go_wp2
        go_loopw [7, 11] (fun v i wr => ∃ (t c : Nat) (g : Nat → Int) (m : Nat → Bool), t ≤ n ∧ c ≤ most ∧ i = .int .i64 t ∧ ChW wr w.heap.size v n c g m ∧ Hid (∀ j, j < t → m j = true) ∧ Bw w wr) (fun _ i _ => n - (intOf i).toNat)
        case atStart => exact ⟨0, c, g, m, by omega, hcm, rfl, hch, (fun j hj => by omega), hw⟩
        case round =>
          clear hch hw
          obtain ⟨t2, c2, g2, m2, ht2, hcm2, rfl, hch2, hall, hw2⟩ := hrel
          obtain ⟨vA2, vc2, rfl, hin2, -, -⟩ := ints_of_own hch2.own
          by_cases hlt2 : t2 < n ∧ c2 < most
          · obtain ⟨m1, mf⟩ := hch2.met.cell (c := t2) (by omega)
            have y0 : (0 : Int) ≤ (t2 : Int) := Int.natCast_nonneg _
            have y1 : (t2 : Int) < 32 := by omega
            have y2 : (t2 : Int) < (n : Int) := by omega
            have y3 : (c2 : Int) < (most : Int) := by omega
            have hmx : c2 + 1 ≤ maxLen := by unfold maxLen; omega
            have hsz := hw2.size
            cases hm : m2 t2 with
            | true =>
              rw [hm] at m1
              go_wp2
              go_roundw
              case rel => exact ⟨t2 + 1, c2, g2, m2, by omega, hcm2, by go_num, hch2, (fun j hj => by by_cases e : j = t2; (subst e; exact hm); exact hall j (by omega)), hw2⟩
              case measure => simp [intOf]; omega
            | false =>
              rw [hm] at m1
              have hlt0 : w.heap.size < wr.heap.size := by obtain ⟨cur, h2, _⟩ := hch2.met; exact (Array.getElem?_eq_some_iff.1 h2).1
              have hb1 : Bw w (wr.setCell ⟨w.heap.size, t2, none⟩ (.bool true)) := Bw.put hw2 (Nat.le_refl _) _ _
              have hs1 : (wr.setCell ⟨w.heap.size, t2, none⟩ (.bool true)).heap.size = wr.heap.size := by simp
              have ho1 := own_set (b := w.heap.size) (j := t2) (x := .bool true) hch2.own (by omega)
              have hnw : ((wr.setCell ⟨w.heap.size, t2, none⟩ (.bool true)).alloc (.cells #[.int .i64 (t2 : Int)] 3)).heap[wr.heap.size]? = some (.cells #[.int .i64 (t2 : Int)] 3 (0, 0)) := by
                have := heap_alloc_new (wr.setCell ⟨w.heap.size, t2, none⟩ (.bool true)) (.cells #[.int .i64 (t2 : Int)] 3)
                rwa [hs1] at this
              go_wp2_with (at_builtin; refine wpList_append_lies _ (by rfl) (.tmp 65) (.tmp 67) _ (by rfl) (w.heap.size + 1) 3 i0 _ 1 8 Try.underlying33 hi0 hz0 hz1 hz2 rfl (by omega) _ _ _ (by rfl) (ho1.alloc _) ⟨wr.heap.size, 0, none⟩ 1 1 [.int .i64 (t2 : Int)] (by rfl) (by rfl) (World.news_of_block (cs := #[.int .i64 (t2 : Int)]) (t := 3) (fr := (0, 0)) hnw) (by simp [Value.oneCell']) (by omega) hmx (by omega) (by simp; omega) (wr.heap.size + 1) (by simp) ?_; intro gg cc3 w3 hown3 hgrow3 hat hlt')
              have hch3 := hch2.add hlt2.1 hn hm hgrow3 hown3
              have hb3 : Bw w w3 := bw_grow hgrow3 (hb1.alloc (by rw [hs1]; exact hsz) _) (by simp; omega) (own_less (ho1.alloc (.cells #[.int .i64 (t2 : Int)] 3)) (Nat.le_succ _))
              go_roundw
              case rel => exact ⟨t2 + 1, c2 + 1, _, _, by omega, by omega, by go_num, hch3, (fun j hj => by by_cases e : j = t2; (subst e; exact upd_at _ _ _); rw [upd_ne _ _ e]; exact hall j (by omega)), hb3⟩
              case measure => simp [intOf]; omega
          · have ec : c2 = most := by
              by_cases h4 : t2 < n
              · omega
              · have := hch2.full hn (fun j hj => hall.out j (by omega))
                omega
            subst ec
            rcases (show ¬ (t2 : Int) < (n : Int) ∨ ((t2 : Int) < (n : Int) ∧ ¬ (c2 : Int) < (c2 : Int)) by omega) with h4 | ⟨h4, h5⟩
            · go_wp2
              go_ret
              exact ⟨vA2, ⟨vc2, rfl⟩, g2, hin2, hch2.good, hw2⟩
            · go_wp2
              go_ret
              exact ⟨vA2, ⟨vc2, rfl⟩, g2, hin2, hch2.good, hw2⟩

theorem taken_any (A B : Option Addr) (n l ca cb : Nat) (R : Nat → Option Addr) (L C : Nat → Nat) (Z : Nat → Nat → Int) (f : Nat → Int) (w : World) (ha : MatAt w A n R L C Z) (hb : IntsAt w B l f) (hl : l ≤ 1048576) (hf : Hid (∀ i, i < l → 0 ≤ f i ∧ f i < (n : Int))) :
    Calls Try.prog 23 #[.slice A n ca, .slice B l cb] w fun e w' => ∃ A' cap, e = .returned (.slice A' l cap) ∧ MatAt w' A' l (fun i => R (f i).toNat) (fun i => L (f i).toNat) (fun i => C (f i).toNat) (fun i => Z (f i).toNat) ∧ Bw w w' := by
  obtain ⟨j0, hj0, hy0, hy1, hy2⟩ := info_parts info_row
  go_enter Try.func23, Try.ntmps23
  go_wp2
  go_loopw [5, 6] (fun v i wr => ∃ t : Nat, t ≤ l ∧ i = .int .i64 t ∧ wr.ownsRow w.heap.size 37 1 v t (rowsU (fun i => R (f i).toNat) (fun i => L (f i).toNat) (fun i => C (f i).toNat) t) ∧ Bw w wr) (fun _ i _ => l - (intOf i).toNat)
  case atStart => exact ⟨0, Nat.zero_le _, rfl, World.ownsRow_nil _ _ _ _, Bw.refl _⟩
  case round =>
    obtain ⟨t, ht, rfl, hown, hw⟩ := hrel
    by_cases hlt : t < l
    · obtain ⟨y, hy⟩ : ∃ y : Nat, f t = (y : Int) := ⟨(f t).toNat, by have := hf.out t hlt; omega⟩
      have hyn : y < n := by have := hf.out t hlt; omega
      have HY : Hid ((f t).toNat = y) := show (f t).toNat = y by omega
      obtain ⟨b1, o1, rfl, hc1⟩ := (ha.keep hw).at hyn
      have h1 := hc1 y hyn
      obtain ⟨b2, o2, rfl, hc2⟩ := (hb.keep hw).resolve_left (by omega)
      have h2 := hc2 t hlt
      rw [hy] at h2
      have t0 : (0 : Int) ≤ (t : Int) := Int.natCast_nonneg _
      have t1 : (t : Int) < (l : Int) := by omega
      have y0 : (0 : Int) ≤ (y : Int) := Int.natCast_nonneg _
      have y1 : (y : Int) < (n : Int) := by omega
      have hmx : t + 1 ≤ maxLen := by unfold maxLen; omega
      have hsz := hw.size
      clear hc1 hc2 hy
      go_wp2_with (at_builtin; refine wpList_append_lies _ (by rfl) (.tmp 13) (.tmp 21) _ (by rfl) w.heap.size 37 j0 _ 1 24 Try.underlying22 hj0 hy0 hy1 hy2 rfl (by omega) _ _ _ (by rfl) (hown.alloc _) ⟨wr.heap.size, 0, none⟩ 1 1 [.slice (R y) (L y) (C y)] (by rfl) (by rfl) (World.news_of_block (cs := #[.slice (R y) (L y) (C y)]) (t := 37) (fr := (0, 0)) (heap_alloc_new wr _)) (by simp [Value.oneCell']) (by omega) hmx (by omega) (by simp; omega) (wr.heap.size + 1) (by simp) ?_; intro gg cc w2 hv2 hgrow2 hat hlt')
      have hb2 : Bw w w2 := bw_grow hgrow2 (hw.alloc hsz _) (by simp; omega) (hown.alloc _)
      have e1 : rowsU (fun i => R (f i).toNat) (fun i => L (f i).toNat) (fun i => C (f i).toNat) (t + 1) = rowsU (fun i => R (f i).toNat) (fun i => L (f i).toNat) (fun i => C (f i).toNat) t ++ [.slice (R y) (L y) (C y)] := by
        rw [rowsU_succ, HY.out]
      rw [← e1] at hv2
      go_roundw
      case rel => exact ⟨t + 1, by omega, by go_num, hv2, hb2⟩
      case measure => simp [intOf]; omega
    · have ek : l = t := by omega
      subst ek
      obtain ⟨A1, c1, rfl, hm⟩ := mat_of_own (Z := fun i => Z (f i).toNat) hown (fun i hi => ((ha.keep hw).2 (f i).toNat (by have := hf.out i hi; omega)))
      go_wp2
      go_ret
      exact ⟨A1, c1, rfl, hm, hw⟩

end Go.Proofs.Ytbhbdhkifkmkbaa
