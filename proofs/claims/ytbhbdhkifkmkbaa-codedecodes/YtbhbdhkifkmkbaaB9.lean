/- Texts of mine, put together. -/
import Derived.Test.YtbhbdhkifkmkbaaB8

set_option linter.unusedVariables false

/- What the program's solve answers, and out of it its Decode and Rebuild. -/
namespace Go.Proofs.Ytbhbdhkifkmkbaa
open Go.RowKit

theorem eq_any (A B : Option Addr) (la ca lb cb : Nat) (f g : Nat → Int) (w : World) (ha : RowAt w A la f) (hb : RowAt w B lb g) (b : Bool) (hbb : b = true ↔ (la = lb ∧ ∀ i, i < la → f i = g i)) :
    Calls Try.prog 49 #[.slice A la ca, .slice B lb cb] w fun e w' => e = .returned (.bool b) ∧ w' = w := by
  have hin := str_inj (L := la) (M := lb) ha.2 hb.2
  have hb2 : ((str f la).toList == (str g lb).toList) = b := by
    cases b with
    | true => simpa using hin.2 (hbb.1 rfl)
    | false =>
      have : ¬ (str f la).toList = (str g lb).toList := fun e => by have := hbb.2 (hin.1 e); cases this
      simpa using this
  have c1 := conv_row (C := ca) ha
  have c2 := conv_row (C := cb) hb
  clear hin hbb
  generalize str f la = s1 at *
  generalize str g lb = s2 at *
  go_enter Try.func49, Try.ntmps49
  go_wp2
  go_ret
  exact ⟨rfl, rfl⟩

/-- the same shards in another order -/
def Mixed (l : Nat) (f : Nat → Int) (Z : Nat → Nat → Int) (L : Nat → Nat) (fs : Nat → Int) (Zs : Nat → Nat → Int) (Ls : Nat → Nat) : Prop := ∃ s, IsPerm l s ∧ ∀ i, i < l → fs i = f (s i) ∧ Zs i = Z (s i) ∧ Ls i = L (s i)

theorem order_mixed (B A : Option Addr) (l cb ca : Nat) (R : Nat → Option Addr) (L C : Nat → Nat) (Z : Nat → Nat → Int) (f : Nat → Int) (w : World) (hb : MatAt w B l R L C Z) (ha : IntsAt w A l f) (hl0 : 0 < l) (hl : l ≤ 32) :
    Calls Try.prog 47 #[.slice B l cb, .slice A l ca] w fun e w' => ∃ (b1 o1 b2 o2 c1 c2 : Nat) (Rs : Nat → Option Addr) (Ls Cs : Nat → Nat) (Zs : Nat → Nat → Int) (fs : Nat → Int), e = .returned (.tuple #[.slice (some ⟨b1, o1, none⟩) l c1, .slice (some ⟨b2, o2, none⟩) l c2]) ∧ Mixed l f Z L fs Zs Ls ∧ l ≤ c1 ∧ l ≤ c2 ∧ MatAt w' (some ⟨b1, o1, none⟩) l Rs Ls Cs Zs ∧ IntsAt w' (some ⟨b2, o2, none⟩) l fs ∧ Bw w w' := by
  refine (order_any B A l cb ca R L C Z f w hb ha hl0 hl).mono ?_
  rintro e w' ⟨s, A', B', c1, c2, rfl, hs, h1, h2, hm, hi, hw⟩
  obtain ⟨b1, o1, rfl, -⟩ := hm.at (k := 0) hl0
  obtain ⟨b2, o2, rfl, -⟩ := hi.resolve_left (by omega)
  exact ⟨b1, o1, b2, o2, c1, c2, _, _, _, _, _, rfl, ⟨s, hs, fun i _ => ⟨rfl, rfl, rfl⟩⟩, h1, h2, hm, hi, hw⟩

theorem good_mixed {l : Nat} {n : Int} {f fs : Nat → Int} {Z Zs : Nat → Nat → Int} {L Ls : Nat → Nat} (h : Mixed l f Z L fs Zs Ls) (hg : Good l n f) : Good l n fs := by
  obtain ⟨s, hs, he⟩ := h
  intro i hi
  refine ⟨by rw [(he i hi).1]; exact (hg _ (hs.1 i hi)).1, fun j hj e => ?_⟩
  rw [(he i hi).1, (he j (by omega)).1] at e
  have hne : s j ≠ s i := fun e => by have := hs.2 j i (by omega) hi e; omega
  exact good_apart hg (hs.1 j (by omega)) (hs.1 i hi) hne e
theorem word_mixed {k l q : Nat} {D : Nat → Nat → Int} {f fs : Nat → Int} {Z Zs : Nat → Nat → Int} {L Ls : Nat → Nat} (h : Mixed l f Z L fs Zs Ls) : WordOf k D l q fs Zs ↔ WordOf k D l q f Z := by
  obtain ⟨s, hs, he⟩ := h
  constructor
  · intro hw
    refine ⟨hw.1, fun i hi c hc => ?_⟩
    obtain ⟨j, hj, e⟩ := La.onto l s hs.1 hs.2 i hi
    have := hw.2 j hj c hc
    rw [(he j hj).1, (he j hj).2.1, e] at this
    exact this
  · intro hw
    refine ⟨hw.1, fun i hi c hc => ?_⟩
    rw [(he i hi).1, (he i hi).2.1]
    exact hw.2 (s i) (hs.1 i hi) c hc
theorem good_le {l : Nat} {n : Int} {f : Nat → Int} (hg : Good l n f) (hn : 0 ≤ n) : (l : Int) ≤ n := by
  have := La.pigeon n.toNat l (fun i => (f i).toNat) (fun i hi => by have := (hg i hi).1; omega) (fun i j hi hj e => by
    apply Classical.byContradiction
    intro hne
    have h1 := (hg i hi).1
    have h2 := (hg j hj).1
    exact good_apart hg hi hj hne (by have e' : (f i).toNat = (f j).toNat := e; omega))
  omega

theorem mixed_len {l q : Nat} {f fs : Nat → Int} {Z Zs : Nat → Nat → Int} {L Ls : Nat → Nat} (h : Mixed l f Z L fs Zs Ls) (hL : ∀ r, r < l → L r = q) : ∀ r, r < l → Ls r = q := by
  obtain ⟨s, hs, he⟩ := h
  intro r hr
  rw [(he r hr).2.2, hL _ (hs.1 r hr)]
theorem wrong_same {k q : Nat} {L : Nat → Nat} (hk : k ≤ 32) (hq : q ≤ 131072) (h : ∀ r, r < k → L r = q) : Wrong k L 0 := by
  refine Or.inr (Or.inr ⟨rfl, hk, fun r hr => by rw [h r hr]; exact hq, fun r hr => ?_⟩)
  rw [h r hr, h 0 (by omega)]
theorem ints_take {w : World} {A : Option Addr} {l k : Nat} {f : Nat → Int} (h : IntsAt w A l f) (hk : k ≤ l) : IntsAt w A k f := by
  rcases h with h0 | ⟨b, o, e, hc⟩
  · exact Or.inl (by omega)
  · exact Or.inr ⟨b, o, e, fun i hi => hc i (by omega)⟩

set_option maxRecDepth 100000 in
set_option maxHeartbeats 4000000 in
theorem solve_ok (k n : Nat) (B A : Option Addr) (l cb ca : Nat) (R : Nat → Option Addr) (L C : Nat → Nat) (Z : Nat → Nat → Int) (f : Nat → Int) (w : World) (hb : MatAt w B l R L C Z) (ha : IntsAt w A l f) (hkn : KnWrong (k : Int) (n : Int) 0) (hg : Good l (n : Int) f) (hkl : k ≤ l) (hrw : RowsWrong l L 0) :
    Calls Try.prog 35 #[.int .i64 (k : Int), .int .i64 (n : Int), .slice B l cb, .slice A l ca] w fun e w' => Bw w w' ∧
      ((e = .returned (.tuple #[.slice none 0 0, .slice none 0 0, .int .i64 31]) ∧ ¬ ∃ D, WordOf k D l (L 0) f Z) ∨
       ∃ v1 v2 D, e = .returned (.tuple #[v1, v2, .int .i64 0]) ∧ MatRes w' w.heap.size v1 n (fun _ => k) (tabI k) ∧ MatRes w' w.heap.size v2 k (fun _ => L 0) D ∧ WordOf k D l (L 0) f Z) := by
  obtain ⟨n1, n2, n3⟩ := kn_ok hkn
  obtain ⟨l1, l2⟩ := rows_ok hrw
  have hl := good_le hg (by omega)
  have hl32 : l ≤ 32 := by omega
  have hq : L 0 ≤ 131072 := l1 0 (by omega)
  have hsh : Hid (ShWrong (k : Int) (n : Int) l l L f 0) := show ShWrong (k : Int) (n : Int) l l L f 0 from Or.inr (Or.inr (Or.inr (Or.inr ⟨hkn, rfl, hg, by omega, hrw⟩)))
  have HL : Hid (∀ r, r < l → L r = L 0) := l2
  have HG : Hid (Good l (n : Int) f) := hg
  have wkk : Hid (Wrong k (fun _ => k) 0) := wrong_lit (c := k) (by omega) (by omega) (fun _ => rfl)
  generalize hqq : L 0 = q at *
  clear l1 l2 hg hl
  go_enter Try.func35, Try.ntmps35
  go_wp2_with (first
    | (go_at_call 46; refine (sh_any (k : Int) (n : Int) B A l l cb ca R L C Z f _ hb ha (by omega) (by omega)).mono ?_; rintro e w1 ⟨x, rfl, hx, hw1⟩; obtain rfl := hx.unique hsh.out; clear hx)
    | (go_at_call 47; refine (order_mixed B A l cb ca R L C Z f _ (hb.keep hw1) (ha.keep hw1) (by omega) hl32).mono ?_; rintro e w2 ⟨b1, o1, b2, o2, c1, c2, Rs, Ls, Cs, Zs, fs, rfl, hmix, hc1, hc2, hm2, hi2, hw2⟩; have kc1 : (k : Int) ≤ (c1 : Int) := (by omega); have kc2 : (k : Int) ≤ (c2 : Int) := (by omega); have HGs : Hid (Good l (n : Int) fs) := good_mixed hmix HG.out; have hfs : Hid (∀ i, i < k → 0 ≤ fs i ∧ fs i < (n : Int)) := (fun i hi => (HGs.out i (by omega)).1); have HLs : Hid (∀ r, r < l → Ls r = q) := mixed_len hmix HL.out; have wls : Hid (Wrong k Ls 0) := wrong_same (by omega) hq (fun r hr => HLs.out r (by omega)))
    | (go_at_call 11; refine (tab_ok k n hkn _).mono ?_; rintro e w3 ⟨v3, rfl, hr3, hw3⟩; obtain ⟨A3, cap3, R3, C3, rfl, hm3⟩ := hr3; have hm2a := hm2.keep hw3; have hi2a := hi2.keep hw3)
    | (go_at_call 48; refine (pick_any A3 _ n k _ _ R3 _ C3 _ fs _ hm3.mat (ints_take hi2a hkl) (by omega) hfs).mono ?_; rintro e w4 ⟨g4, rfl, hm4, hw4⟩; have hm2b := hm2a.keep hw4)
    | (go_at_call 27; refine (iv_ok _ k _ _ (fun _ => k) _ _ _ hm4 wkk.out (cols_const (by omega) rfl)).mono ?_; rintro e w5 ⟨v5, x5, kk, Y, rfl, hr5, hv5, hw5⟩; obtain ⟨e0, e1, hat0⟩ := back_math (f := fs) (by omega) (fun i hi => by have := hfs.out i hi; omega) (fun a b h1 h2 h3 => good_apart HGs.out (by omega) (by omega) h3) (fun i _ j _ => rfl) hv5 hr5.bd; subst x5; subst kk; have HA : Hid (∀ (Z : Nat → Nat → Int) (j c : Nat), j < k → (∀ t, t < k → 0 ≤ Z t c ∧ Z t c < 256) → prodZ k Y Z j c = atZ k fs Z (j : Int) c) := hat0; clear hat0 hv5; obtain ⟨A5, cap5, R5, C5, rfl, hm5⟩ := hr5; have hm2c := hm2b.keep hw5)
    | (go_at_call 28; refine (mul_ok A5 _ k k q _ _ R5 Rs _ _ Ls Cs Y Zs _ hm5.mat (mat_take hm2c hkl) wkk.out wls.out (cols_const (by omega) rfl) (cols_const (by omega) (HLs.out 0 (by omega)))).mono ?_; rintro e w6 ⟨v6, rfl, hr6, hw6⟩; have hr6a := hr6.vals (Z' := fun j c => atZ k fs Zs (j : Int) c) (fun r _ c => atZ_bd _ _ _ _ _) (fun r hr c _ => (HA.out Zs r c hr (fun t ht => (hm2.2 t (by omega)).2 c)).symm); obtain ⟨A6, cap6, R6, C6, rfl, hm6⟩ := hr6a; clear hr6))
  have hw36 : Bw w3 w6 := hw4.trans (hw5.trans hw6)
  have hm3f := hm3.keep hw36
  have hi2f := hi2a.keep hw36
  have hm2f := hm2a.keep hw36
  have hw06 : Bw w w6 := hw1.trans (hw2.trans (hw3.trans hw36))
  have hsz2 := (hw1.trans hw2).size
  have hsz5 := (hw1.trans (hw2.trans (hw3.trans (hw4.trans hw5)))).size
  have HB : Hid (∀ i, i < l → ∀ c, 0 ≤ Zs i c ∧ Zs i c < 256) := fun i hi => (hm2.2 i hi).2
  clear hm3 hm2a hi2a hm4 hm2b hm5 hm2c hm2 hi2 HA
  go_loopw [8, 9, 15] (fun tv dv i wr => ∃ t : Nat, k ≤ t ∧ t ≤ l ∧ i = .int .i64 t ∧ tv = .slice A3 n cap3 ∧ dv = .slice A6 k cap6 ∧ Hid (∀ i, k ≤ i → i < t → ∀ c, c < q → atZ k fs Zs (fs i) c = Zs i c) ∧ Bw w6 wr) (fun _ _ i _ => l - (intOf i).toNat)
  case atStart => exact ⟨k, Nat.le_refl _, hkl, rfl, rfl, rfl, (fun i h1 h2 => by omega), Bw.refl _⟩
  case round =>
    obtain ⟨t, hkt, htl, rfl, rfl, rfl, hon, hw⟩ := hrel
    by_cases hlt : t < l
    · obtain ⟨y, hy⟩ : ∃ y : Nat, fs t = (y : Int) := ⟨(fs t).toNat, by have := (HGs.out t hlt).1; omega⟩
      have hyn : y < n := by have := (HGs.out t hlt).1; omega
      obtain ⟨b1', o1', e1, hc1'⟩ := (hm2f.keep hw).at hlt
      cases e1
      have h1 := hc1' t hlt
      rw [HLs.out t hlt] at h1
      obtain ⟨b2', o2', e2, hc2'⟩ := (hi2f.keep hw).resolve_left (by omega)
      cases e2
      have h2 := hc2' t hlt
      rw [hy] at h2
      have hrow := hm2f.2 t hlt
      rw [HLs.out t hlt] at hrow
      have t0 : (0 : Int) ≤ (t : Int) := Int.natCast_nonneg _
      have t1 : (t : Int) < (l : Int) := by omega
      have HW : Hid (∀ c, wordI k (fun j c => atZ k fs Zs (j : Int) c) y c = atZ k fs Zs (fs t) c) := fun c => by
        rw [hy]
        exact word_at (by omega) (by omega) (fun i hi => by have := hfs.out i hi; omega) (fun j hj => HB.out j (by omega) c)
      clear hc1' hc2'
      by_cases he : ∀ c, c < q → atZ k fs Zs (fs t) c = Zs t c
      · have HE : Hid (∀ c, c < q → atZ k fs Zs (fs t) c = Zs t c) := he
        clear he hy
        go_wp2_with (first
          | (go_at_call 36; refine (shard_ok A3 A6 k n q _ _ y R3 R6 C3 (fun _ => q) C6 _ _ (hm3f.mat.keep hw) (hm6.mat.keep hw) (by omega) (by omega) hq (fun _ _ => rfl) hyn).mono ?_; rintro e w7 ⟨A7, cap7, rfl, hr7, hw7⟩; have k1 := cell_bw hw7 h1)
          | (go_at_call 49; refine (eq_any A7 (Rs t) q _ q _ _ (Zs t) _ hr7.row (hrow.keep (hw.trans hw7)) true ⟨fun _ => ⟨rfl, fun c hc => by rw [HW.out c]; exact HE.out c hc⟩, fun _ => rfl⟩).mono ?_; rintro e w' ⟨rfl, hw'⟩; subst w'))
        go_roundw
        case rel => exact ⟨t + 1, by omega, by omega, by go_num, rfl, rfl, (fun i h1 h2 c hc => by by_cases e : i = t; (subst e; exact HE.out c hc); exact hon i h1 (by omega) c hc), hw.trans hw7⟩
        case measure => simp [intOf]; omega
      · have HE : Hid (¬ ∀ c, c < q → atZ k fs Zs (fs t) c = Zs t c) := he
        have HY : Hid (fs t = (y : Int)) := hy
        clear he hy
        go_wp2_with (first
          | (go_at_call 36; refine (shard_ok A3 A6 k n q _ _ y R3 R6 C3 (fun _ => q) C6 _ _ (hm3f.mat.keep hw) (hm6.mat.keep hw) (by omega) (by omega) hq (fun _ _ => rfl) hyn).mono ?_; rintro e w7 ⟨A7, cap7, rfl, hr7, hw7⟩; have k1 := cell_bw hw7 h1)
          | (go_at_call 49; refine (eq_any A7 (Rs t) q _ q _ _ (Zs t) _ hr7.row (hrow.keep (hw.trans hw7)) false ⟨fun h => (by cases h), fun h => absurd (fun c hc => by rw [← HW.out c]; exact h.2 c hc) HE.out⟩).mono ?_; rintro e w' ⟨rfl, hw'⟩; subst w'))
        go_ret3
        refine ⟨hw06.trans (hw.trans hw7), Or.inl ⟨rfl, ?_⟩⟩
        rintro ⟨D', hD⟩
        have hD2 := (word_mixed hmix).2 hD
        refine HE.out (fun c hc => ?_)
        have h5 := wordof_at (by omega) n3 HGs.out hkl hD2 (x := y) (by omega) hc
        rw [← HY.out] at h5
        rw [h5, ← hD2.2 t hlt c hc, HY.out, Int.toNat_natCast]
    · have ek : l = t := by omega
      subst ek
      have hword := (word_mixed hmix).1 (wordof_of (q := q) (by omega) n3 HGs.out hkl HB.out hon.out)
      go_wp2
      go_ret3
      exact ⟨hw06.trans hw, Or.inr ⟨_, _, _, rfl, MatRes.below ⟨A3, cap3, R3, C3, rfl, hm3f.keep hw⟩ hsz2, MatRes.below ⟨A6, cap6, R6, C6, rfl, hm6.keep hw⟩ hsz5, hword⟩⟩

theorem solve_bad (k n : Int) (B A : Option Addr) (m l cb ca : Nat) (R : Nat → Option Addr) (L C : Nat → Nat) (Z : Nat → Nat → Int) (f : Nat → Int) (w : World) (hb : MatAt w B m R L C Z) (ha : IntsAt w A l f) (hl : l ≤ 140737488355328) (hm : m ≤ 140737488355328) (x : Int) (hx : ShWrong k n m l L f x) (h0 : x ≠ 0) :
    Calls Try.prog 35 #[.int .i64 k, .int .i64 n, .slice B m cb, .slice A l ca] w fun e w' => e = .returned (.tuple #[.slice none 0 0, .slice none 0 0, .int .i64 x]) ∧ Bw w w' := by
  have e2 : (x != 0) = true := by simpa using h0
  go_enter Try.func35, Try.ntmps35
  go_wp2_with (go_at_call 46; refine (sh_any k n B A m l cb ca R L C Z f _ hb ha hl hm).mono ?_; rintro e w1 ⟨y, rfl, hy, hw1⟩; obtain rfl := hy.unique hx)
  go_ret3
  exact ⟨rfl, hw1⟩

theorem solve_all (k n : Int) (B A : Option Addr) (m l cb ca : Nat) (R : Nat → Option Addr) (L C : Nat → Nat) (Z : Nat → Nat → Int) (f : Nat → Int) (w : World) (hb : MatAt w B m R L C Z) (ha : IntsAt w A l f) (hl : l ≤ 140737488355328) (hm : m ≤ 140737488355328) :
    Calls Try.prog 35 #[.int .i64 k, .int .i64 n, .slice B m cb, .slice A l ca] w fun e w' => ∃ v1 v2 x kk nn D, e = .returned (.tuple #[v1, v2, .int .i64 x]) ∧ MatRes w' w.heap.size v1 nn (fun _ => k.toNat) (tabI k.toNat) ∧ MatRes w' w.heap.size v2 kk (fun _ => L 0) D ∧ DecSays k n m l L f Z x kk D ∧ (x = 0 → (nn : Int) = n) ∧ Bw w w' := by
  obtain ⟨x, hx⟩ := sh_some k n m l L f
  by_cases h0 : x = 0
  · subst h0
    obtain ⟨h1, rfl, h3, h4, h5⟩ := sh_ok hx
    have hk := kn_ok h1
    obtain ⟨k', rfl⟩ := Int.eq_ofNat_of_zero_le (show 0 ≤ k by omega)
    obtain ⟨n', rfl⟩ := Int.eq_ofNat_of_zero_le (show 0 ≤ n by omega)
    refine (solve_ok k' n' B A m cb ca R L C Z f w hb ha h1 h3 (by omega) h5).mono ?_
    rintro e w' ⟨hw, ⟨he, hno⟩ | ⟨v1, v2, D, he, hm1, hm2, hword⟩⟩
    · exact ⟨_, _, 31, 0, 0, Z, he, res_none _ _ _ _, res_none _ _ _ _, Or.inr (Or.inl ⟨hx, rfl, rfl, hno⟩), (fun h => by cases h), hw⟩
    · exact ⟨v1, v2, 0, k', n', D, he, hm1, hm2, Or.inr (Or.inr ⟨hx, rfl, rfl, hword⟩), (fun _ => rfl), hw⟩
  · refine (solve_bad k n B A m l cb ca R L C Z f w hb ha hl hm x hx h0).mono ?_
    rintro e w' ⟨he, hw⟩
    exact ⟨_, _, x, 0, 0, Z, he, res_none _ _ _ _, res_none _ _ _ _, Or.inl ⟨hx, h0, rfl⟩, (fun h => absurd h h0), hw⟩

theorem dec_all (k n : Int) (B A : Option Addr) (m l cb ca : Nat) (R : Nat → Option Addr) (L C : Nat → Nat) (Z : Nat → Nat → Int) (f : Nat → Int) (w : World) (hb : MatAt w B m R L C Z) (ha : IntsAt w A l f) (hl : l ≤ 140737488355328) (hm : m ≤ 140737488355328) :
    Calls Try.prog 18 #[.int .i64 k, .int .i64 n, .slice B m cb, .slice A l ca] w fun e w' => ∃ v x kk D, e = .returned (.tuple #[v, .int .i64 x]) ∧ MatRes w' w.heap.size v kk (fun _ => L 0) D ∧ DecSays k n m l L f Z x kk D ∧ Bw w w' := by
  go_enter Try.func18, Try.ntmps18
  go_wp2_with (go_at_call 35; refine (solve_all k n B A m l cb ca R L C Z f _ hb ha hl hm).mono ?_; rintro e w1 ⟨v1, v2, x, kk, nn, D, rfl, hm1, hm2, hs, hn, hw1⟩)
  go_ret2
  exact ⟨v2, x, kk, D, rfl, hm2, hs, hw1⟩

/-- what Rebuild says -/
def RebSays (k n : Int) (m l : Nat) (L : Nat → Nat) (f : Nat → Int) (Z : Nat → Nat → Int) (want x : Int) (q : Nat) (row : Nat → Int) : Prop := ∃ (x0 : Int) (kk : Nat) (D : Nat → Nat → Int), DecSays k n m l L f Z x0 kk D ∧
  ((x0 ≠ 0 ∧ x = x0 ∧ q = 0) ∨ (x0 = 0 ∧ (want < 0 ∨ n ≤ want) ∧ x = 1 ∧ q = 0) ∨ (x0 = 0 ∧ 0 ≤ want ∧ want < n ∧ x = 0 ∧ q = L 0 ∧ ∀ c, c < q → row c = wordI k.toNat D want.toNat c))
theorem decsays_ok {k n : Int} {m l : Nat} {L : Nat → Nat} {f : Nat → Int} {Z : Nat → Nat → Int} {kk : Nat} {D : Nat → Nat → Int} (h : DecSays k n m l L f Z 0 kk D) : ShWrong k n m l L f 0 ∧ kk = k.toNat ∧ WordOf k.toNat D l (L 0) f Z := by
  rcases h with ⟨_, h, _⟩ | ⟨_, h, _⟩ | ⟨a, _, b, c⟩
  · exact absurd rfl h
  · cases h
  · exact ⟨a, b, c⟩
theorem rebsays_unique {k n : Int} {m l : Nat} {L : Nat → Nat} {f : Nat → Int} {Z : Nat → Nat → Int} {want x x' : Int} {q q' : Nat} {row row' : Nat → Int} (h : RebSays k n m l L f Z want x q row) (h' : RebSays k n m l L f Z want x' q' row') : x = x' ∧ q = q' ∧ ∀ c, c < q → row c = row' c := by
  obtain ⟨x0, kk, D, hd, h⟩ := h
  obtain ⟨x0', kk', D', hd', h'⟩ := h'
  obtain ⟨e1, e2, e3⟩ := decsays_unique hd hd'
  subst e1
  rcases h with ⟨a, b, c⟩ | ⟨a, b, c, d⟩ | ⟨a, b, c, d, e, g⟩ <;> rcases h' with ⟨a', b', c'⟩ | ⟨a', b', c', d'⟩ | ⟨a', b', c', d', e', g'⟩
  · exact ⟨by omega, by omega, fun c hc => by omega⟩
  · exact absurd a' a
  · exact absurd a' a
  · exact absurd a a'
  · exact ⟨by omega, by omega, fun c hc => by omega⟩
  · omega
  · exact absurd a a'
  · omega
  · refine ⟨by omega, by omega, fun c hc => ?_⟩
    subst a
    rw [g c hc, g' c (by omega)]
    exact word_congr (fun j hj => e3 j (by rw [(decsays_ok hd).2.1]; exact hj) c (by omega))

theorem dec_some (k n : Int) (m l : Nat) (L : Nat → Nat) (f : Nat → Int) (Z : Nat → Nat → Int) : ∃ x kk D, DecSays k n m l L f Z x kk D := by
  obtain ⟨x, hx⟩ := sh_some k n m l L f
  by_cases h0 : x = 0
  · subst h0
    by_cases h1 : ∃ D, WordOf k.toNat D l (L 0) f Z
    · obtain ⟨D, hD⟩ := h1
      exact ⟨0, k.toNat, D, Or.inr (Or.inr ⟨hx, rfl, rfl, hD⟩)⟩
    · exact ⟨31, 0, Z, Or.inr (Or.inl ⟨hx, rfl, rfl, h1⟩)⟩
  · exact ⟨x, 0, Z, Or.inl ⟨hx, h0, rfl⟩⟩

theorem decsays_shape {k n : Int} {m l : Nat} {L : Nat → Nat} {f : Nat → Int} {Z : Nat → Nat → Int} {kk : Nat} {D : Nat → Nat → Int} (h : DecSays k n m l L f Z 0 kk D) : 1 ≤ k ∧ k ≤ n ∧ n ≤ 32 ∧ (kk : Int) = k ∧ L 0 ≤ 131072 := by
  obtain ⟨a, b, c⟩ := decsays_ok h
  obtain ⟨h1, h2, h3, h4, h5⟩ := sh_ok a
  have hk := kn_ok h1
  have := (rows_ok h5).1 0 (by omega)
  exact ⟨hk.1, hk.2.1, hk.2.2, by omega, this⟩

set_option maxRecDepth 100000 in
theorem reb_bad (k n want : Int) (B A : Option Addr) (m l cb ca : Nat) (R : Nat → Option Addr) (L C : Nat → Nat) (Z : Nat → Nat → Int) (f : Nat → Int) (w : World) (hb : MatAt w B m R L C Z) (ha : IntsAt w A l f) (hl : l ≤ 140737488355328) (hm : m ≤ 140737488355328) (x0 : Int) (kk0 : Nat) (D0 : Nat → Nat → Int) (hd : DecSays k n m l L f Z x0 kk0 D0)
    (hc : (x0 != 0) = true ∨ ((x0 != 0) = false ∧ want < 0) ∨ ((x0 != 0) = false ∧ ¬ want < 0 ∧ n ≤ want)) :
    Calls Try.prog 19 #[.int .i64 k, .int .i64 n, .slice B m cb, .slice A l ca, .int .i64 want] w fun e w' => e = .returned (.tuple #[.slice none 0 0, .int .i64 (if x0 = 0 then 1 else x0)]) ∧ Bw w w' := by
  rcases hc with c1 | ⟨c1, c2⟩ | ⟨c1, c2, c3⟩
  · have e1 : (if x0 = 0 then (1 : Int) else x0) = x0 := if_neg (by simpa using c1)
    rw [e1]
    go_enter Try.func19, Try.ntmps19
    go_wp2_with (go_at_call 35; refine (solve_all k n B A m l cb ca R L C Z f _ hb ha hl hm).mono ?_; rintro e w1 ⟨v1, v2, x, kk, nn, D, rfl, hm1, hm2, hs, hn, hw1⟩; obtain ⟨e2, -, -⟩ := decsays_unique hd hs; subst x)
    go_ret2
    exact ⟨rfl, hw1⟩
  · have e1 : (if x0 = 0 then (1 : Int) else x0) = 1 := if_pos (by simpa using c1)
    rw [e1]
    go_enter Try.func19, Try.ntmps19
    go_wp2_with (go_at_call 35; refine (solve_all k n B A m l cb ca R L C Z f _ hb ha hl hm).mono ?_; rintro e w1 ⟨v1, v2, x, kk, nn, D, rfl, hm1, hm2, hs, hn, hw1⟩; obtain ⟨e2, -, -⟩ := decsays_unique hd hs; subst x)
    go_ret2
    exact ⟨rfl, hw1⟩
  · have e1 : (if x0 = 0 then (1 : Int) else x0) = 1 := if_pos (by simpa using c1)
    rw [e1]
    go_enter Try.func19, Try.ntmps19
    go_wp2_with (go_at_call 35; refine (solve_all k n B A m l cb ca R L C Z f _ hb ha hl hm).mono ?_; rintro e w1 ⟨v1, v2, x, kk, nn, D, rfl, hm1, hm2, hs, hn, hw1⟩; obtain ⟨e2, -, -⟩ := decsays_unique hd hs; subst x)
    go_ret2
    exact ⟨rfl, hw1⟩

set_option maxRecDepth 100000 in
theorem reb_ok (k n want : Nat) (B A : Option Addr) (m l cb ca : Nat) (R : Nat → Option Addr) (L C : Nat → Nat) (Z : Nat → Nat → Int) (f : Nat → Int) (w : World) (hb : MatAt w B m R L C Z) (ha : IntsAt w A l f) (hl : l ≤ 140737488355328) (hm : m ≤ 140737488355328) (D0 : Nat → Nat → Int) (hd : DecSays (k : Int) (n : Int) m l L f Z 0 k D0) (hw0 : want < n) :
    Calls Try.prog 19 #[.int .i64 (k : Int), .int .i64 (n : Int), .slice B m cb, .slice A l ca, .int .i64 (want : Int)] w fun e w' => ∃ A' cap D, e = .returned (.tuple #[.slice A' (L 0) cap, .int .i64 0]) ∧ NewRow w' w.heap.size A' (L 0) (wordI k D want) ∧ DecSays (k : Int) (n : Int) m l L f Z 0 k D ∧ Bw w w' := by
  obtain ⟨k1, k2, k3, k4, k5⟩ := decsays_shape hd
  have c1 : ¬ (want : Int) < 0 := by omega
  have c2 : ¬ (n : Int) ≤ (want : Int) := by omega
  go_enter Try.func19, Try.ntmps19
  go_wp2_with (first
    | (go_at_call 35; refine (solve_all (k : Int) (n : Int) B A m l cb ca R L C Z f _ hb ha hl hm).mono ?_; rintro e w1 ⟨v1, v2, x, kk, nn, D, rfl, hm1, hm2, hs, hn, hw1⟩; obtain ⟨e2, e3, -⟩ := decsays_unique hd hs; subst x; subst kk; have e4 : nn = n := (by have := hn rfl; omega); subst nn; obtain ⟨A1, cap1, R1, C1, rfl, hr1⟩ := hm1; obtain ⟨A2, cap2, R2, C2, rfl, hr2⟩ := hm2)
    | (go_at_call 36; refine (shard_ok A1 A2 k n (L 0) _ _ want R1 R2 C1 (fun _ => L 0) C2 D _ hr1.mat hr2.mat (by omega) (by omega) k5 (fun _ _ => rfl) hw0).mono ?_; rintro e w3 ⟨A3, cap3, rfl, hr3, hw3⟩))
  go_ret2
  have hsz := hw1.size
  refine ⟨A3, cap3, D, rfl, ⟨hr3.row, ?_⟩, hs, hw1.trans hw3⟩
  rcases hr3.new with h0 | ⟨g, o, e, h1, h2⟩
  · exact Or.inl h0
  · exact Or.inr ⟨g, o, e, by omega, h2⟩

theorem reb_all (k n want : Int) (B A : Option Addr) (m l cb ca : Nat) (R : Nat → Option Addr) (L C : Nat → Nat) (Z : Nat → Nat → Int) (f : Nat → Int) (w : World) (hb : MatAt w B m R L C Z) (ha : IntsAt w A l f) (hl : l ≤ 140737488355328) (hm : m ≤ 140737488355328) :
    Calls Try.prog 19 #[.int .i64 k, .int .i64 n, .slice B m cb, .slice A l ca, .int .i64 want] w fun e w' => ∃ A' cap x q row, e = .returned (.tuple #[.slice A' q cap, .int .i64 x]) ∧ NewRow w' w.heap.size A' q row ∧ RebSays k n m l L f Z want x q row ∧ Bw w w' := by
  obtain ⟨x0, kk, D, hd⟩ := dec_some k n m l L f Z
  have nr : ∀ w' : World, NewRow w' w.heap.size none 0 (fun _ => 0) := fun w' => ⟨row_none w', Or.inl rfl⟩
  by_cases h0 : x0 = 0
  · by_cases h1 : want < 0 ∨ n ≤ want
    · refine (reb_bad k n want B A m l cb ca R L C Z f w hb ha hl hm x0 kk D hd ?_).mono ?_
      · by_cases h2 : want < 0
        · exact Or.inr (Or.inl ⟨by simpa using h0, h2⟩)
        · exact Or.inr (Or.inr ⟨by simpa using h0, h2, h1.resolve_left h2⟩)
      · rintro e w' ⟨rfl, hw⟩
        rw [if_pos h0]
        exact ⟨none, 0, 1, 0, _, rfl, nr w', ⟨x0, kk, D, hd, Or.inr (Or.inl ⟨h0, h1, rfl, rfl⟩)⟩, hw⟩
    · subst h0
      obtain ⟨k1, k2, k3, k4, k5⟩ := decsays_shape hd
      obtain ⟨n', rfl⟩ := Int.eq_ofNat_of_zero_le (show 0 ≤ n by omega)
      obtain ⟨want', rfl⟩ := Int.eq_ofNat_of_zero_le (show 0 ≤ want by omega)
      subst k4
      refine (reb_ok kk n' want' B A m l cb ca R L C Z f w hb ha hl hm D hd (by omega)).mono ?_
      rintro e w' ⟨A', cap, D', rfl, hr, hd', hw⟩
      exact ⟨A', cap, 0, L 0, _, rfl, hr, ⟨0, kk, D', hd', Or.inr (Or.inr ⟨rfl, by omega, by omega, rfl, rfl, fun c _ => rfl⟩)⟩, hw⟩
  · refine (reb_bad k n want B A m l cb ca R L C Z f w hb ha hl hm x0 kk D hd (Or.inl (by simpa using h0))).mono ?_
    rintro e w' ⟨rfl, hw⟩
    rw [if_neg h0]
    exact ⟨none, 0, x0, 0, _, rfl, nr w', ⟨x0, kk, D, hd, Or.inl ⟨h0, rfl, rfl⟩⟩, hw⟩

end Go.Proofs.Ytbhbdhkifkmkbaa

/- What the document says of a word of four shards: the statements' own wakes. -/
namespace Go.Proofs.Ytbhbdhkifkmkbaa
open Go.RowKit

theorem row_lit1 (W : World) (a : Int) (ha : 0 ≤ a ∧ a < 256) : RowAt (W.alloc (.cells #[.int .u8 a] 5)) (some ⟨W.heap.size, 0, none⟩) 1 (cc a) := row_lit W #[.int .u8 a] 1 (cc a) (fun _ => ha) (fun i hi => by obtain rfl : i = 0 := (by omega); rfl)

theorem lit2 (w : World) (a b : Int) (v : Nat → Int) (hv : ∀ i, 0 ≤ v i ∧ v i < 256) (ha : v 0 = a) (hb : v 1 = b) :
    MatAt (((w.alloc (.cells #[.int .u8 a] 5)).alloc (.cells #[.int .u8 b] 5)).alloc (.cells #[.slice (some ⟨w.heap.size, 0, none⟩) 1 1, .slice (some ⟨w.heap.size + 1, 0, none⟩) 1 1] 37)) (some ⟨w.heap.size + 1 + 1, 0, none⟩) 2
      (fun r => some ⟨w.heap.size + r, 0, none⟩) (fun _ => 1) (fun _ => 1) (fun r => cc (v r)) ∧
    Bw w (((w.alloc (.cells #[.int .u8 a] 5)).alloc (.cells #[.int .u8 b] 5)).alloc (.cells #[.slice (some ⟨w.heap.size, 0, none⟩) 1 1, .slice (some ⟨w.heap.size + 1, 0, none⟩) 1 1] 37)) := by
  subst ha hb
  have r0 := row_lit1 w (v 0) (hv 0)
  have r1 := row_lit1 (w.alloc (.cells #[.int .u8 (v 0)] 5)) (v 1) (hv 1)
  rw [size_alloc] at r1
  generalize hW1 : w.alloc (.cells #[.int .u8 (v 0)] 5) = W1 at *
  have s1 : W1.heap.size = w.heap.size + 1 := by rw [← hW1, size_alloc]
  have b01 : Bw w W1 := by rw [← hW1]; exact (Below.refl _ _).alloc (Nat.le_refl _) _
  generalize hW2 : W1.alloc (.cells #[.int .u8 (v 1)] 5) = W2 at *
  have s2 : W2.heap.size = w.heap.size + 1 + 1 := by rw [← hW2, size_alloc, s1]
  have b12 : Bw W1 W2 := by rw [← hW2]; exact (Below.refl _ _).alloc (Nat.le_refl _) _
  generalize hW4 : W2.alloc (.cells #[.slice (some ⟨w.heap.size, 0, none⟩) 1 1, .slice (some ⟨w.heap.size + 1, 0, none⟩) 1 1] 37) = W4
  have b24 : Bw W2 W4 := by rw [← hW4]; exact (Below.refl _ _).alloc (Nat.le_refl _) _
  refine ⟨⟨Or.inr ⟨_, _, rfl, fun r hr => ?_⟩, fun r hr => ?_⟩, b01.trans (b12.trans b24)⟩
  · rw [Nat.zero_add, ← hW4, ← s2, cell_of_row _ _ r _ _ _ (heap_alloc_new W2 _)]
    rcases (show r = 0 ∨ r = 1 by omega) with rfl | rfl <;> rfl
  · rcases (show r = 0 ∨ r = 1 by omega) with rfl | rfl
    · exact r0.keep (b12.trans b24)
    · exact r1.keep b24

theorem lit3 (w : World) (a b c : Int) (v : Nat → Int) (hv : ∀ i, 0 ≤ v i ∧ v i < 256) (ha : v 0 = a) (hb : v 1 = b) (hc : v 2 = c) :
    MatAt ((((w.alloc (.cells #[.int .u8 a] 5)).alloc (.cells #[.int .u8 b] 5)).alloc (.cells #[.int .u8 c] 5)).alloc (.cells #[.slice (some ⟨w.heap.size, 0, none⟩) 1 1, .slice (some ⟨w.heap.size + 1, 0, none⟩) 1 1, .slice (some ⟨w.heap.size + 1 + 1, 0, none⟩) 1 1] 37)) (some ⟨w.heap.size + 1 + 1 + 1, 0, none⟩) 3
      (fun r => some ⟨w.heap.size + r, 0, none⟩) (fun _ => 1) (fun _ => 1) (fun r => cc (v r)) ∧
    Bw w ((((w.alloc (.cells #[.int .u8 a] 5)).alloc (.cells #[.int .u8 b] 5)).alloc (.cells #[.int .u8 c] 5)).alloc (.cells #[.slice (some ⟨w.heap.size, 0, none⟩) 1 1, .slice (some ⟨w.heap.size + 1, 0, none⟩) 1 1, .slice (some ⟨w.heap.size + 1 + 1, 0, none⟩) 1 1] 37)) := by
  subst ha hb hc
  have r0 := row_lit1 w (v 0) (hv 0)
  generalize hW1 : w.alloc (.cells #[.int .u8 (v 0)] 5) = W1 at *
  have s1 : W1.heap.size = w.heap.size + 1 := by rw [← hW1, size_alloc]
  have b01 : Bw w W1 := by rw [← hW1]; exact (Below.refl _ _).alloc (Nat.le_refl _) _
  have r1 := row_lit1 W1 (v 1) (hv 1)
  generalize hW2 : W1.alloc (.cells #[.int .u8 (v 1)] 5) = W2 at *
  have s2 : W2.heap.size = w.heap.size + 1 + 1 := by rw [← hW2, size_alloc, s1]
  have b12 : Bw W1 W2 := by rw [← hW2]; exact (Below.refl _ _).alloc (Nat.le_refl _) _
  have r2 := row_lit1 W2 (v 2) (hv 2)
  generalize hW3 : W2.alloc (.cells #[.int .u8 (v 2)] 5) = W3 at *
  have s3 : W3.heap.size = w.heap.size + 1 + 1 + 1 := by rw [← hW3, size_alloc, s2]
  have b23 : Bw W2 W3 := by rw [← hW3]; exact (Below.refl _ _).alloc (Nat.le_refl _) _
  rw [s1] at r1
  rw [s2] at r2
  generalize hW4 : W3.alloc (.cells #[.slice (some ⟨w.heap.size, 0, none⟩) 1 1, .slice (some ⟨w.heap.size + 1, 0, none⟩) 1 1, .slice (some ⟨w.heap.size + 1 + 1, 0, none⟩) 1 1] 37) = W4
  have b34 : Bw W3 W4 := by rw [← hW4]; exact (Below.refl _ _).alloc (Nat.le_refl _) _
  refine ⟨⟨Or.inr ⟨_, _, rfl, fun r hr => ?_⟩, fun r hr => ?_⟩, b01.trans (b12.trans (b23.trans b34))⟩
  · rw [Nat.zero_add, ← hW4, ← s3, cell_of_row _ _ r _ _ _ (heap_alloc_new W3 _)]
    rcases (show r = 0 ∨ r = 1 ∨ r = 2 by omega) with rfl | rfl | rfl <;> rfl
  · rcases (show r = 0 ∨ r = 1 ∨ r = 2 by omega) with rfl | rfl | rfl
    · exact r0.keep (b12.trans (b23.trans b34))
    · exact r1.keep (b23.trans b34)
    · exact r2.keep b34

theorem lit4 (w : World) (a b c d : Int) (v : Nat → Int) (hv : ∀ i, 0 ≤ v i ∧ v i < 256) (ha : v 0 = a) (hb : v 1 = b) (hc : v 2 = c) (hd : v 3 = d) :
    MatAt (((((w.alloc (.cells #[.int .u8 a] 5)).alloc (.cells #[.int .u8 b] 5)).alloc (.cells #[.int .u8 c] 5)).alloc (.cells #[.int .u8 d] 5)).alloc (.cells #[.slice (some ⟨w.heap.size, 0, none⟩) 1 1, .slice (some ⟨w.heap.size + 1, 0, none⟩) 1 1, .slice (some ⟨w.heap.size + 1 + 1, 0, none⟩) 1 1, .slice (some ⟨w.heap.size + 1 + 1 + 1, 0, none⟩) 1 1] 37)) (some ⟨w.heap.size + 1 + 1 + 1 + 1, 0, none⟩) 4
      (fun r => some ⟨w.heap.size + r, 0, none⟩) (fun _ => 1) (fun _ => 1) (fun r => cc (v r)) ∧
    Bw w (((((w.alloc (.cells #[.int .u8 a] 5)).alloc (.cells #[.int .u8 b] 5)).alloc (.cells #[.int .u8 c] 5)).alloc (.cells #[.int .u8 d] 5)).alloc (.cells #[.slice (some ⟨w.heap.size, 0, none⟩) 1 1, .slice (some ⟨w.heap.size + 1, 0, none⟩) 1 1, .slice (some ⟨w.heap.size + 1 + 1, 0, none⟩) 1 1, .slice (some ⟨w.heap.size + 1 + 1 + 1, 0, none⟩) 1 1] 37)) := by
  subst ha hb hc hd
  have r0 := row_lit1 w (v 0) (hv 0)
  generalize hW1 : w.alloc (.cells #[.int .u8 (v 0)] 5) = W1 at *
  have s1 : W1.heap.size = w.heap.size + 1 := by rw [← hW1, size_alloc]
  have b01 : Bw w W1 := by rw [← hW1]; exact (Below.refl _ _).alloc (Nat.le_refl _) _
  have r1 := row_lit1 W1 (v 1) (hv 1)
  generalize hW2 : W1.alloc (.cells #[.int .u8 (v 1)] 5) = W2 at *
  have s2 : W2.heap.size = w.heap.size + 1 + 1 := by rw [← hW2, size_alloc, s1]
  have b12 : Bw W1 W2 := by rw [← hW2]; exact (Below.refl _ _).alloc (Nat.le_refl _) _
  have r2 := row_lit1 W2 (v 2) (hv 2)
  generalize hW3 : W2.alloc (.cells #[.int .u8 (v 2)] 5) = W3 at *
  have s3 : W3.heap.size = w.heap.size + 1 + 1 + 1 := by rw [← hW3, size_alloc, s2]
  have b23 : Bw W2 W3 := by rw [← hW3]; exact (Below.refl _ _).alloc (Nat.le_refl _) _
  have r3 := row_lit1 W3 (v 3) (hv 3)
  generalize hW3' : W3.alloc (.cells #[.int .u8 (v 3)] 5) = W3' at *
  have s3' : W3'.heap.size = w.heap.size + 1 + 1 + 1 + 1 := by rw [← hW3', size_alloc, s3]
  have b33 : Bw W3 W3' := by rw [← hW3']; exact (Below.refl _ _).alloc (Nat.le_refl _) _
  rw [s1] at r1
  rw [s2] at r2
  rw [s3] at r3
  generalize hW4 : W3'.alloc (.cells #[.slice (some ⟨w.heap.size, 0, none⟩) 1 1, .slice (some ⟨w.heap.size + 1, 0, none⟩) 1 1, .slice (some ⟨w.heap.size + 1 + 1, 0, none⟩) 1 1, .slice (some ⟨w.heap.size + 1 + 1 + 1, 0, none⟩) 1 1] 37) = W4
  have b34 : Bw W3' W4 := by rw [← hW4]; exact (Below.refl _ _).alloc (Nat.le_refl _) _
  refine ⟨⟨Or.inr ⟨_, _, rfl, fun r hr => ?_⟩, fun r hr => ?_⟩, b01.trans (b12.trans (b23.trans (b33.trans b34)))⟩
  · rw [Nat.zero_add, ← hW4, ← s3', cell_of_row _ _ r _ _ _ (heap_alloc_new W3' _)]
    rcases (show r = 0 ∨ r = 1 ∨ r = 2 ∨ r = 3 by omega) with rfl | rfl | rfl | rfl <;> rfl
  · rcases (show r = 0 ∨ r = 1 ∨ r = 2 ∨ r = 3 by omega) with rfl | rfl | rfl | rfl
    · exact r0.keep (b12.trans (b23.trans (b33.trans b34)))
    · exact r1.keep (b23.trans (b33.trans b34))
    · exact r2.keep (b33.trans b34)
    · exact r3.keep b34

theorem ints_lit (W : World) (cs : Array Value) (n : Nat) (f : Nat → Int) (h : ∀ i, i < n → cs[i]? = some (.int .i64 (f i))) : IntsAt (W.alloc (.cells cs 3)) (some ⟨W.heap.size, 0, none⟩) n f ∧ Bw W (W.alloc (.cells cs 3)) :=
  ⟨Or.inr ⟨_, _, rfl, fun i hi => by rw [Nat.zero_add, cell_of_row _ _ i _ _ _ (heap_alloc_new W _)]; exact h i hi⟩, (Below.refl _ _).alloc (Nat.le_refl _) _⟩

/-- the word of the document's example, and other columns that are asked -/
def d57 (i : Nat) : Int := if i = 0 then 5 else 7
def w57 (i : Nat) : Int := if i = 0 then 5 else if i = 1 then 7 else if i = 2 then 1 else 3
def s35 (i : Nat) : Int := if i = 0 then 3 else 5
def a30 (i : Nat) : Int := if i = 0 then 3 else 0
def s572 (i : Nat) : Int := if i = 0 then 5 else if i = 1 then 7 else 2
theorem d57_bd (i : Nat) : 0 ≤ d57 i ∧ d57 i < 256 := by unfold d57; split <;> omega
theorem w57_bd (i : Nat) : 0 ≤ w57 i ∧ w57 i < 256 := by unfold w57; (repeat' split) <;> omega
theorem s35_bd (i : Nat) : 0 ≤ s35 i ∧ s35 i < 256 := by unfold s35; split <;> omega
theorem s572_bd (i : Nat) : 0 ≤ s572 i ∧ s572 i < 256 := by unfold s572; (repeat' split) <;> omega
theorem word57 (i : Nat) (hi : i < 4) : wordI 2 (fun r => cc (d57 r)) i 0 = w57 i := by
  rcases (show i = 0 ∨ i = 1 ∨ i = 2 ∨ i = 3 by omega) with rfl | rfl | rfl | rfl <;> kernel_rfl

theorem rows_lit (n : Nat) : RowsWrong n (fun _ => 1) 0 := Or.inr (Or.inr ⟨rfl, fun _ _ => (by decide : 1 ≤ 131072), fun _ _ => rfl⟩)
theorem enc57 : EncSays 2 (fun _ => 1) 4 0 4 := Or.inr (Or.inr ⟨Or.inr (Or.inr ⟨rfl, by omega, by omega, by omega⟩), rows_lit 2, rfl, rfl⟩)
theorem sh_lit1 : ShWrong 2 4 2 2 (fun _ => 1) a30 0 := Or.inr (Or.inr (Or.inr (Or.inr ⟨Or.inr (Or.inr ⟨rfl, by omega, by omega, by omega⟩), rfl, fun i hi => by
  rcases (show i = 0 ∨ i = 1 by omega) with rfl | rfl
  · exact ⟨by decide, fun j hj => by omega⟩
  · exact ⟨by decide, fun j hj => by obtain rfl : j = 0 := (by omega); decide⟩, by omega, rows_lit 2⟩)))
theorem dec35 : DecSays 2 4 2 2 (fun _ => 1) a30 (fun r => cc (s35 r)) 0 2 (fun r => cc (d57 r)) := by
  refine Or.inr (Or.inr ⟨sh_lit1, rfl, rfl, fun j _ c => d57_bd j, fun i hi c hc => ?_⟩)
  have hc' : c < 1 := hc
  obtain rfl : c = 0 := by omega
  show wordI 2 (fun r => cc (d57 r)) (a30 i).toNat 0 = s35 i
  rcases (show i = 0 ∨ i = 1 by omega) with rfl | rfl
  · rw [show (a30 0).toNat = 3 by decide, word57 3 (by omega)]; decide
  · rw [show (a30 1).toNat = 0 by decide, word57 0 (by omega)]; decide
theorem sh_lit2 : ShWrong 2 4 3 3 (fun _ => 1) (fun i => (i : Int)) 0 := Or.inr (Or.inr (Or.inr (Or.inr ⟨Or.inr (Or.inr ⟨rfl, by omega, by omega, by omega⟩), rfl, fun i hi => ⟨show (0 : Int) ≤ (i : Int) ∧ (i : Int) < 4 by omega, fun j hj => show (j : Int) ≠ (i : Int) by omega⟩, by omega, rows_lit 3⟩)))
theorem dec572 : DecSays 2 4 3 3 (fun _ => 1) (fun i => (i : Int)) (fun r => cc (s572 r)) 31 0 (fun _ _ => 0) := by
  refine Or.inr (Or.inl ⟨sh_lit2, rfl, rfl, ?_⟩)
  rintro ⟨D, hb, hD⟩
  have h0 : wordI 2 D 0 0 = 5 := hD 0 (by decide) 0 (by decide)
  have h1 : wordI 2 D 1 0 = 7 := hD 1 (by decide) 0 (by decide)
  have h2 : wordI 2 D 2 0 = 2 := hD 2 (by decide) 0 (by decide)
  rw [word_data (by omega) (by omega) (hb 0 (by decide) 0)] at h0
  rw [word_data (by omega) (by omega) (hb 1 (by decide) 0)] at h1
  have h3 : wordI 2 D 2 0 = wordI 2 (fun r => cc (d57 r)) 2 0 := word_congr (fun j hj => by
    rcases (show j = 0 ∨ j = 1 by omega) with rfl | rfl
    · rw [h0]; decide
    · rw [h1]; decide)
  rw [h3, word57 2 (by omega)] at h2
  exact absurd h2 (by decide)

end Go.Proofs.Ytbhbdhkifkmkbaa

/- The statements' own wakes. -/
namespace Go.Proofs.Ytbhbdhkifkmkbaa
open Go.RowKit

theorem dec_lit (B A : Option Addr) (m l cb ca : Nat) (R : Nat → Option Addr) (L C : Nat → Nat) (Z : Nat → Nat → Int) (f : Nat → Int) (w : World) (hb : MatAt w B m R L C Z) (ha : IntsAt w A l f) (hl : l ≤ 3) (hm : m ≤ 3) (x : Int) (kk : Nat) (D : Nat → Nat → Int) (hd : DecSays 2 4 m l L f Z x kk D) :
    Calls Try.prog 18 #[.int .i64 2, .int .i64 4, .slice B m cb, .slice A l ca] w fun e w' => ∃ A' cap R' C' D', e = .returned (.tuple #[.slice A' kk cap, .int .i64 x]) ∧ MatAt w' A' kk R' (fun _ => L 0) C' D' ∧ (∀ j, j < kk → ∀ c, c < L 0 → D j c = D' j c) ∧ Bw w w' := by
  refine (dec_all 2 4 B A m l cb ca R L C Z f w hb ha (by omega) (by omega)).mono ?_
  rintro e w' ⟨v, x', kk', D', rfl, hr, hs, hw⟩
  obtain ⟨rfl, rfl, h3⟩ := decsays_unique hd hs
  obtain ⟨A', cap, R', C', rfl, hn⟩ := hr
  exact ⟨A', cap, R', C', D', rfl, hn.mat, h3, hw⟩
theorem enc_lit (B : Option Addr) (cb : Nat) (R : Nat → Option Addr) (C : Nat → Nat) (Z : Nat → Nat → Int) (w : World) (hb : MatAt w B 2 R (fun _ => 1) C Z) :
    Calls Try.prog 14 #[.slice B 2 cb, .int .i64 4] w fun e w' => ∃ A' cap R' C', e = .returned (.tuple #[.slice A' 4 cap, .int .i64 0]) ∧ MatAt w' A' 4 R' (fun _ => 1) C' (wordI 2 Z) ∧ Bw w w' := by
  refine (enc_res B 2 cb R _ C Z 4 w hb).mono ?_
  rintro e w' ⟨v, x', kk', rfl, hr, hs, hw⟩
  obtain ⟨rfl, rfl⟩ := encsays_unique enc57 hs
  obtain ⟨A', cap, R', C', rfl, hn⟩ := hr
  exact ⟨A', cap, R', C', rfl, hn.mat, hw⟩
theorem same_lit1 : SameM 4 4 (fun _ => 1) (fun _ => 1) (wordI 2 (fun r => cc (d57 r))) (fun r => cc (w57 r)) := by
  refine ⟨rfl, fun r hr => ⟨rfl, fun i hi => ?_⟩⟩
  have hi' : i < 1 := hi
  obtain rfl : i = 0 := by omega
  exact word57 r hr

set_option maxRecDepth 100000 in
set_option maxHeartbeats 2000000 in
theorem wakes3_any : WakeSpec := by
  intro w
  obtain ⟨hA, hwA⟩ := lit2 w 5 7 d57 d57_bd rfl rfl
  go_enter Try.func10, Try.ntmps10
  go_wp2_with (first
    | (go_at_call 14; refine (enc_lit _ _ _ _ _ _ hA).mono ?_; rintro e w1 ⟨A1, cap1, R1, C1, rfl, hm1, hw1⟩; obtain ⟨hB, hwB⟩ := lit2 w1 3 5 s35 s35_bd rfl rfl; obtain ⟨hI, hwI⟩ := ints_lit (((w1.alloc (.cells #[.int .u8 3] 5)).alloc (.cells #[.int .u8 5] 5)).alloc (.cells #[.slice (some ⟨w1.heap.size, 0, none⟩) 1 1, .slice (some ⟨w1.heap.size + 1, 0, none⟩) 1 1] 37)) #[.int .i64 3, .int .i64 0] 2 a30 (fun i hi => by rcases (show i = 0 ∨ i = 1 by omega) with rfl | rfl <;> rfl); have hB' := hB.keep hwI; simp only [size_alloc] at hI; have hw1' := hwB.trans hwI; clear hB)
    | (go_at_call_of 18 w1; refine (dec_lit _ _ 2 2 _ _ _ _ _ _ _ _ hB' hI (by omega) (by omega) 0 2 _ dec35).mono ?_; rintro e w2 ⟨A2, cap2, R2, C2, D2, rfl, hm2, hD2, hw2⟩; obtain ⟨hE, hwE⟩ := lit3 w2 5 7 2 s572 s572_bd rfl rfl rfl; obtain ⟨hJ, hwJ⟩ := ints_lit ((((w2.alloc (.cells #[.int .u8 5] 5)).alloc (.cells #[.int .u8 7] 5)).alloc (.cells #[.int .u8 2] 5)).alloc (.cells #[.slice (some ⟨w2.heap.size, 0, none⟩) 1 1, .slice (some ⟨w2.heap.size + 1, 0, none⟩) 1 1, .slice (some ⟨w2.heap.size + 1 + 1, 0, none⟩) 1 1] 37)) #[.int .i64 0, .int .i64 1, .int .i64 2] 3 (fun i => (i : Int)) (fun i hi => by rcases (show i = 0 ∨ i = 1 ∨ i = 2 by omega) with rfl | rfl | rfl <;> rfl); have hE' := hE.keep hwJ; simp only [size_alloc] at hJ; have hw2' := hwE.trans hwJ; clear hE)
    | (go_at_call_of 18 w2; refine (dec_lit _ _ 3 3 _ _ _ _ _ _ _ _ hE' hJ (by omega) (by omega) 31 0 _ dec572).mono ?_; rintro e w3 ⟨A3, cap3, R3, C3, D3, rfl, hm3, hD3, hw3⟩; obtain ⟨hF, hwF⟩ := lit4 w3 5 7 1 3 w57 w57_bd rfl rfl rfl rfl; have hm1' := hm1.keep (hw1'.trans (hw2.trans (hw2'.trans (hw3.trans hwF)))); have hm2' := hm2.keep (hw2'.trans (hw3.trans hwF)))
    | (go_at_call_of 15 cap1; refine (rsame_any A1 _ 4 4 cap1 _ R1 _ _ C1 _ _ _ _ (by omega) _ hm1' hF).mono ?_; rintro e w4 ⟨x, rfl, hx, hw4⟩; obtain rfl : x = true := hx.2 same_lit1; obtain ⟨hG, hwG⟩ := lit2 w4 5 7 d57 d57_bd rfl rfl; have hm2'' := hm2'.keep (hw4.trans hwG); have HD2 : Hid (∀ (j : Nat), j < 2 → ∀ (c : Nat), c < 1 → cc (d57 j) c = D2 j c) := hD2; clear hx hF hm1' hm3 hD3 hD2 hE' hJ hB' hI hA hm2' hm1 hm2)
    | (go_at_call_of 15 cap2; refine (rsame_any A2 _ 2 2 cap2 _ R2 _ _ C2 _ _ _ _ (by omega) _ hm2'' hG).mono ?_; rintro e w5 ⟨x, rfl, hx, hw5⟩; obtain rfl : x = true := hx.2 ⟨rfl, fun r hr => ⟨rfl, fun i hi => (HD2.out r hr i hi).symm⟩⟩))
  go_ret
  exact ⟨rfl, hwA.trans (hw1.trans (hw1'.trans (hw2.trans (hw2'.trans (hw3.trans (hwF.trans (hw4.trans (hwG.trans hw5))))))))⟩

end Go.Proofs.Ytbhbdhkifkmkbaa

/- What a call is told of rows of whole numbers that came in. -/
namespace Go.Proofs.Ytbhbdhkifkmkbaa
open Go.ChangeShapes Go.WideShapes Go.RowKit Go.Deep

/-- a row of whole numbers that came in -/
structure InInts (w : World) (A : Option Addr) (n cap : Nat) (f : Nat → Int) : Prop where
  row : IntsAt w A n f
  le : n ≤ cap
  room : cap * 8 ≤ 140737488351232
  nil : A = none → cap = 0
  bd : ∀ i, -9223372036854775808 ≤ f i ∧ f i ≤ 9223372036854775807

theorem int_of (zs : List Int) (h : ∀ n ∈ zs, (Lit.int .i64 n).wf = true) (i : Nat) : -9223372036854775808 ≤ zs.getD i 0 ∧ zs.getD i 0 ≤ 9223372036854775807 := by
  rcases Nat.lt_or_ge i zs.length with hi | hi
  · have := bounds_i64 (h zs[i] (List.getElem_mem hi))
    rw [List.getD_eq_getElem?_getD, List.getElem?_eq_getElem hi]
    simp only [Option.getD_some]
    omega
  · rw [List.getD_eq_getElem?_getD, List.getElem?_eq_none hi]
    decide

theorem open_introw {H : Type} {enc : TypeId × Value → H} {W : World} {A : Option Addr} {n cap : Nat} {d : DataW H} {p : List MemPlace}
    (h : DataW.Trod enc Try.prog W 0 (fun _ => true) true 33 (.slice A n cap) d p) (hw : ∀ x ∈ d.weights Try.prog 33, x ≤ reachBytes) : ∃ f, InInts W A n cap f := by
  obtain ⟨fuel, hf⟩ := h
  rcases open_ints Try.underlying33 Try.underlying3 (by kernel_rfl) hf with ⟨hcs, _⟩ | ⟨x, l, c, zs, hcs, _, hl, hm, hz, hd, hcell, hwz⟩
  · simp [Value.cells] at hcs
    obtain ⟨rfl, rfl, rfl⟩ := hcs
    exact ⟨fun _ => 0, Or.inl rfl, Nat.le_refl _, Nat.zero_le _, fun _ => rfl, fun _ => by decide⟩
  · simp [Value.cells] at hcs
    obtain ⟨rfl, rfl, rfl⟩ := hcs
    simp only [Prod.mk.injEq] at hd
    obtain ⟨rfl, _⟩ := hd
    simp only [if_true] at hz
    have hb : Try.prog.bytesOf 3 = 8 := by kernel_rfl
    have hcap : n ≤ cap ∧ cap * 8 ≤ 140737488351232 := by
      have := hw ((zs.take n).length * 8 + (zs.drop n).length * 8) (by
        simp only [DataW.weights, Try.underlying33, hb, lits, List.length_map]
        exact List.mem_cons.2 (Or.inl (by omega)))
      simp only [List.length_take, List.length_drop, reachBytes] at this
      omega
    refine ⟨fun i => zs.getD i 0, ?_, hcap.1, hcap.2, fun e => (by cases e), int_of zs hwz⟩
    rcases Nat.eq_zero_or_pos n with h0 | h0
    · exact Or.inl h0
    · obtain ⟨b, off, rfl, hc⟩ := cells_plain (n := zs.length) (V := fun i => .int .i64 (zs.getD i 0)) hcell (by omega)
      exact Or.inr ⟨b, off, rfl, fun i hi => hc i (by omega)⟩

end Go.Proofs.Ytbhbdhkifkmkbaa
