/- Texts of mine, put together. -/
import Derived.Test.YtbhbdhkifkmkbaaB3
import Derived.ProofKit
import Derived.OpenShut
import Derived.SizedLaws
import Derived.Deep.Matrix

set_option linter.unusedVariables false

/- The document's own Encode. -/
namespace Go.Proofs.Ytbhbdhkifkmkbaa
open Go.RowKit

/-- what Encode's errors and shape are -/
def EncSays (k : Nat) (L : Nat → Nat) (N x : Int) (kk : Nat) : Prop :=
  (KnWrong (k : Int) N x ∧ x ≠ 0 ∧ kk = 0) ∨ (KnWrong (k : Int) N 0 ∧ RowsWrong k L x ∧ x ≠ 0 ∧ kk = 0) ∨ (KnWrong (k : Int) N 0 ∧ RowsWrong k L 0 ∧ x = 0 ∧ (kk : Int) = N)
theorem encsays_unique {k kk kk' : Nat} {L : Nat → Nat} {N x x' : Int} (h : EncSays k L N x kk) (h' : EncSays k L N x' kk') : x = x' ∧ kk = kk' := by
  rcases h with ⟨a, b, c⟩ | ⟨a, b, c, d⟩ | ⟨a, b, c, d⟩ <;> rcases h' with ⟨a', b', c'⟩ | ⟨a', b', c', d'⟩ | ⟨a', b', c', d'⟩
  · exact ⟨a.unique a', by omega⟩
  · exact absurd (a.unique a') b
  · exact absurd (a.unique a') b
  · exact absurd (a'.unique a) b'
  · exact ⟨b.unique b', by omega⟩
  · exact absurd (b.unique b') c
  · exact absurd (a'.unique a) b'
  · exact absurd (b'.unique b) c'
  · exact ⟨by omega, by omega⟩

theorem kn_ok {k n : Int} (h : KnWrong k n 0) : 1 ≤ k ∧ k ≤ n ∧ n ≤ 32 := by unfold KnWrong at h; omega
theorem rows_ok {k : Nat} {L : Nat → Nat} (h : RowsWrong k L 0) : (∀ r, r < k → L r ≤ 131072) ∧ ∀ r, r < k → L r = L 0 := by
  rcases h with ⟨h, _⟩ | ⟨h, _⟩ | ⟨_, h⟩
  · cases h
  · cases h
  · exact h

set_option maxRecDepth 100000 in
set_option maxHeartbeats 2000000 in
theorem renc_ok (A : Option Addr) (k n cap : Nat) (R : Nat → Option Addr) (L C : Nat → Nat) (Z : Nat → Nat → Int) (w : World) (h : MatAt w A k R L C Z) (hkn : KnWrong (k : Int) (n : Int) 0) (hrw : RowsWrong k L 0) :
    Calls Try.prog 17 #[.slice A k cap, .int .i64 (n : Int)] w fun e w' => ∃ v R' C', e = .returned (.tuple #[v, .int .i64 0]) ∧ OwnMat w' w.heap.size v n R' (fun _ => L 0) C' (wordI k Z) ∧ Bw w w' := by
  obtain ⟨j0, hj0, hy0, hy1, hy2⟩ := info_parts info_row
  obtain ⟨n1, n2, n3⟩ := kn_ok hkn
  obtain ⟨l1, l2⟩ := rows_ok hrw
  have hq : L 0 ≤ 131072 := l1 0 (by omega)
  have HL : Hid (∀ r, r < k → L r = L 0) := l2
  have HP : Hid (∀ i, i < k → 0 ≤ ((i : Nat) : Int) ∧ ((i : Nat) : Int) < 256) := fun i hi => by omega
  clear l1 l2
  go_enter Try.func17, Try.ntmps17
  go_wp2_with (first
    | (go_at_call 29; refine (rkn_any _ _ _).mono ?_; rintro e w' ⟨x, rfl, hx, hw'⟩; subst w'; obtain rfl := hx.unique hkn)
    | (go_at_call 33; refine (rrows_any A k cap R L C Z (by omega) _ h).mono ?_; rintro e w1 ⟨x, rfl, hx, hw1⟩; obtain rfl := hx.unique hrw))
  go_loopw [7, 8] (fun v i wr => ∃ (t : Nat) (R' : Nat → Option Addr) (L' C' : Nat → Nat) (Z' : Nat → Nat → Int), t ≤ n ∧ i = .int .i64 t ∧ OwnMat wr w.heap.size v t R' L' C' Z' ∧ Hid (∀ r, r < t → L' r = L 0 ∧ Z' r = wordI k Z r) ∧ Bw w wr) (fun _ i _ => n - (intOf i).toNat)
  case atStart => exact ⟨0, fun _ => none, fun _ => 0, fun _ => 0, Z, Nat.zero_le _, rfl, OwnMat.nil _ _ _ _ _ _, (fun r hr => by omega), hw1⟩
  case round =>
    obtain ⟨t, R', L', C', Z', ht, rfl, hmat, hsame, hwr⟩ := hrel
    by_cases hlt : t < n
    · have hsz := hwr.size
      have hmx2 : t + 1 ≤ maxLen := by unfold maxLen; omega
      go_wp2_with (first
        | (go_at_call 31; refine (rfirst_any k (by omega) _).mono ?_; rintro e w2 ⟨A2, cap2, rfl, hi2, hw2⟩)
        | (go_at_call 34; refine (rat_any A2 A k (L 0) cap2 cap (fun i => (i : Int)) R L C Z (t : Int) _ hi2 (h.keep (hwr.trans hw2)) HP HL (by omega) (by omega) hq (by omega) (by omega)).mono ?_; rintro e w3 ⟨g, rfl, hg, hblk, hw3⟩; have b3 : Bw wr w3 := hw2.trans hw3; have hs2 := hw2.size; have hgl : g < w3.heap.size := (by obtain ⟨cur, hcur, _⟩ := hblk; exact (Array.getElem?_eq_some_iff.1 hcur).1))
        | (at_builtin; refine wpList_append_lies _ (by rfl) (.tmp 25) (.tmp 32) _ (by rfl) w.heap.size 37 j0 _ 1 24 Try.underlying22 hj0 hy0 hy1 hy2 rfl (by omega) _ _ _ (by rfl) ((own_keep hmat.own b3).alloc _) ⟨w3.heap.size, 0, none⟩ 1 1 [.slice (some ⟨g, 0, none⟩) (L 0) (L 0)] (by rfl) (by rfl) (World.news_of_block (cs := #[.slice (some ⟨g, 0, none⟩) (L 0) (L 0)]) (t := 37) (fr := (0, 0)) (heap_alloc_new w3 _)) (by simp [Value.oneCell']) (by omega) hmx2 (by omega) (by simp; have := b3.size; omega) (w3.heap.size + 1) (by simp) ?_; intro gg c2 w4 hown2 hgrow2 hat hlt'))
      have hrow : RowAt w3 (some ⟨g, 0, none⟩) (L 0) (wordI k Z t) := (hblk.congr (f' := wordI k Z t) (fun c hc => (at_word (by omega) (by omega) (fun j _ => rfl) (fun j hj => (h.2 j hj).2 c)).symm)).row (fun i => wordI_bd _ _ _ _)
      have hp := OwnMat.push hmat b3 hsz hrow ⟨Nat.le_refl _, by unfold maxLen; omega⟩ (fun a ha => by cases ha; exact ⟨by simp only; omega, hgl⟩) hgrow2 hat hown2
      go_roundw
      case rel => exact ⟨t + 1, _, _, _, _, by omega, by go_num, hp.1, same_upd (L := fun _ => L 0) (Z := wordI k Z) hsame, hwr.trans' hp.2⟩
      case measure => simp [intOf]; omega
    · have ek : n = t := by omega
      subst ek
      go_wp2
      go_ret2
      exact ⟨_, _, _, rfl, hmat.congr hsame, hwr⟩

theorem renc_bad (A : Option Addr) (k cap : Nat) (N x : Int) (w : World) (hx : KnWrong (k : Int) N x) (h0 : x ≠ 0) :
    Calls Try.prog 17 #[.slice A k cap, .int .i64 N] w fun e w' => e = .returned (.tuple #[.slice none 0 0, .int .i64 x]) ∧ w' = w := by
  have e1 : (x == 0) = false := by simpa using h0
  have e2 : (x != 0) = true := by simpa using h0
  go_enter Try.func17, Try.ntmps17
  go_wp2_with (go_at_call 29; refine (rkn_any _ _ _).mono ?_; rintro e w' ⟨y, rfl, hy, hw'⟩; subst w'; obtain rfl := hy.unique hx)
  go_ret2
  exact ⟨rfl, rfl⟩

theorem renc_rows (A : Option Addr) (k cap : Nat) (R : Nat → Option Addr) (L C : Nat → Nat) (Z : Nat → Nat → Int) (N x : Int) (w : World) (h : MatAt w A k R L C Z) (hkn : KnWrong (k : Int) N 0) (hx : RowsWrong k L x) (h0 : x ≠ 0) :
    Calls Try.prog 17 #[.slice A k cap, .int .i64 N] w fun e w' => e = .returned (.tuple #[.slice none 0 0, .int .i64 x]) ∧ Bw w w' := by
  have e2 : (x != 0) = true := by simpa using h0
  have hk := kn_ok hkn
  go_enter Try.func17, Try.ntmps17
  go_wp2_with (first
    | (go_at_call 29; refine (rkn_any _ _ _).mono ?_; rintro e w' ⟨y, rfl, hy, hw'⟩; subst w'; obtain rfl := hy.unique hkn)
    | (go_at_call 33; refine (rrows_any A k cap R L C Z (by omega) _ h).mono ?_; rintro e w1 ⟨y, rfl, hy, hw1⟩; obtain rfl := hy.unique hx))
  go_ret2
  exact ⟨rfl, hw1⟩

end Go.Proofs.Ytbhbdhkifkmkbaa

/- The document's own Encode for whatever rows; what it finds wrong with shards and their numbers. -/
namespace Go.Proofs.Ytbhbdhkifkmkbaa
open Go.RowKit

theorem kn_some (k n : Int) : ∃ x, KnWrong k n x := by
  rcases (show (k < 1 ∨ n < k) ∨ (1 ≤ k ∧ k ≤ n ∧ 32 < n) ∨ (1 ≤ k ∧ k ≤ n ∧ n ≤ 32) by omega) with h | h | h
  · exact ⟨1, Or.inl ⟨rfl, h⟩⟩
  · exact ⟨2, Or.inr (Or.inl ⟨rfl, h⟩)⟩
  · exact ⟨0, Or.inr (Or.inr ⟨rfl, h⟩)⟩
theorem rows_some (n : Nat) (L : Nat → Nat) : ∃ x, RowsWrong n L x := by
  by_cases h1 : ∃ r, r < n ∧ 131072 < L r
  · exact ⟨2, Or.inl ⟨rfl, h1⟩⟩
  · have hl : ∀ r, r < n → L r ≤ 131072 := fun r hr => Nat.le_of_not_lt (fun e => h1 ⟨r, hr, e⟩)
    by_cases h2 : ∃ r, r < n ∧ L r ≠ L 0
    · exact ⟨6, Or.inr (Or.inl ⟨rfl, hl, h2⟩)⟩
    · exact ⟨0, Or.inr (Or.inr ⟨rfl, hl, fun r hr => Classical.byContradiction fun e => h2 ⟨r, hr, e⟩⟩)⟩

/-- a matrix in memory, as a value -/
def MatVal3 (w : World) (v : Value) (n : Nat) (L : Nat → Nat) (Z : Nat → Nat → Int) : Prop := ∃ A cap R C, v = .slice A n cap ∧ MatAt w A n R L C Z
theorem val3_none (w : World) (L : Nat → Nat) (Z : Nat → Nat → Int) : MatVal3 w (.slice none 0 0) 0 L Z := ⟨_, _, fun _ => none, fun _ => 0, rfl, Or.inl rfl, fun r hr => by omega⟩
theorem OwnMat.val3 {w : World} {base n : Nat} {v : Value} {R : Nat → Option Addr} {L C : Nat → Nat} {Z : Nat → Nat → Int} (h : OwnMat w base v n R L C Z) : MatVal3 w v n L Z := by
  obtain ⟨A, cap, rfl, hm⟩ := mat_of_own h.own h.row
  exact ⟨A, cap, R, C, rfl, hm⟩

theorem renc_all (A : Option Addr) (k cap : Nat) (R : Nat → Option Addr) (L C : Nat → Nat) (Z : Nat → Nat → Int) (N : Int) (w : World) (h : MatAt w A k R L C Z) :
    Calls Try.prog 17 #[.slice A k cap, .int .i64 N] w fun e w' => ∃ v x kk, e = .returned (.tuple #[v, .int .i64 x]) ∧ MatVal3 w' v kk (fun _ => L 0) (wordI k Z) ∧ EncSays k L N x kk ∧ Bw w w' := by
  obtain ⟨x, hx⟩ := kn_some (k : Int) N
  by_cases h0 : x = 0
  · subst h0
    obtain ⟨y, hy⟩ := rows_some k L
    by_cases h1 : y = 0
    · subst h1
      obtain ⟨n, rfl⟩ := Int.eq_ofNat_of_zero_le (show 0 ≤ N by have := kn_ok hx; omega)
      refine (renc_ok A k n cap R L C Z w h hx hy).mono ?_
      rintro e w' ⟨v, R', C', he, hm, hw⟩
      exact ⟨v, 0, n, he, hm.val3, Or.inr (Or.inr ⟨hx, hy, rfl, rfl⟩), hw⟩
    · refine (renc_rows A k cap R L C Z N y w h hx hy h1).mono ?_
      rintro e w' ⟨he, hw⟩
      exact ⟨_, y, 0, he, val3_none _ _ _, Or.inr (Or.inl ⟨hx, hy, h1, rfl⟩), hw⟩
  · refine (renc_bad A k cap N x w hx h0).mono ?_
    rintro e w' ⟨he, rfl⟩
    exact ⟨_, x, 0, he, val3_none _ _ _, Or.inl ⟨hx, h0, rfl⟩, Bw.refl _⟩

/-- numbers from 0 to n - 1, each once -/
def Good (l : Nat) (n : Int) (f : Nat → Int) : Prop := ∀ i, i < l → (0 ≤ f i ∧ f i < n) ∧ ∀ j, j < i → f j ≠ f i
/-- what is wrong with shards -/
def ShWrong (k n : Int) (m l : Nat) (L : Nat → Nat) (f : Nat → Int) (x : Int) : Prop :=
  (KnWrong k n x ∧ x ≠ 0) ∨ (KnWrong k n 0 ∧ m ≠ l ∧ x = 6) ∨ (KnWrong k n 0 ∧ m = l ∧ ¬ Good l n f ∧ x = 1) ∨ (KnWrong k n 0 ∧ m = l ∧ Good l n f ∧ (l : Int) < k ∧ x = 30) ∨
  (KnWrong k n 0 ∧ m = l ∧ Good l n f ∧ k ≤ (l : Int) ∧ RowsWrong m L x)

theorem ShWrong.unique {k n : Int} {m l : Nat} {L : Nat → Nat} {f : Nat → Int} {x y : Int} (h : ShWrong k n m l L f x) (h' : ShWrong k n m l L f y) : x = y := by
  rcases h with ⟨a, b⟩ | ⟨a, b, c⟩ | ⟨a, b, c, d⟩ | ⟨a, b, c, d, e⟩ | ⟨a, b, c, d, e⟩ <;> rcases h' with ⟨a', b'⟩ | ⟨a', b', c'⟩ | ⟨a', b', c', d'⟩ | ⟨a', b', c', d', e'⟩ | ⟨a', b', c', d', e'⟩ <;>
    first | exact a.unique a' | exact absurd (a.unique a') b | exact absurd (a'.unique a) b' | omega | exact absurd c' c | exact absurd c c' | exact e.unique e' | exact absurd b' b | exact absurd b b'

set_option maxRecDepth 100000 in
theorem rsh_loop (k n : Int) (B A : Option Addr) (l cb ca : Nat) (R : Nat → Option Addr) (L C : Nat → Nat) (Z : Nat → Nat → Int) (f : Nat → Int) (w : World) (hb : MatAt w B l R L C Z) (ha : IntsAt w A l f) (hl : l ≤ 140737488355328) (hkn : KnWrong k n 0) :
    Calls Try.prog 37 #[.int .i64 k, .int .i64 n, .slice B l cb, .slice A l ca] w fun e w' => ∃ x, e = .returned (.int .i64 x) ∧ ShWrong k n l l L f x ∧ Bw w w' := by
  obtain ⟨n1, n2, n3⟩ := kn_ok hkn
  have ell : ((l : Int) != (l : Int)) = false := by simp
  go_enter Try.func37, Try.ntmps37
  go_wp2_with (go_at_call 29; refine (rkn_any _ _ _).mono ?_; rintro e w' ⟨y, rfl, hy, hw'⟩; subst w'; obtain rfl := hy.unique hkn)
  go_loopw [10, 11] (fun i _ wr => ∃ t : Nat, t ≤ l ∧ i = .int .i64 t ∧ Hid (Good t n f) ∧ Bw w wr) (fun i _ _ => l - (intOf i).toNat)
  case atStart => exact ⟨0, Nat.zero_le _, rfl, (show Good 0 n f from fun i hi => by omega), Bw.refl _⟩
  case round =>
    rename World => wo
    obtain ⟨t, ht, rfl, hg, hw⟩ := hrel
    by_cases hlt : t < l
    · obtain ⟨b, o, rfl, hc⟩ := (ha.keep hw).resolve_left (by omega)
      have h1 := hc t hlt
      have t0 : (0 : Int) ≤ (t : Int) := Int.natCast_nonneg _
      have t1 : (t : Int) < (l : Int) := by omega
      rcases (show f t < 0 ∨ (¬ f t < 0 ∧ n ≤ f t) ∨ (¬ f t < 0 ∧ ¬ n ≤ f t) by omega) with h2 | ⟨h2, h3⟩ | ⟨h2, h3⟩
      · clear hc
        go_wp2
        go_ret
        exact ⟨1, rfl, Or.inr (Or.inr (Or.inl ⟨hkn, rfl, fun hh => by have := hh t hlt; omega, rfl⟩)), hw⟩
      · clear hc
        go_wp2
        go_ret
        exact ⟨1, rfl, Or.inr (Or.inr (Or.inl ⟨hkn, rfl, fun hh => by have := hh t hlt; omega, rfl⟩)), hw⟩
      · clear hc
        go_wp2
        go_loopw [11] (fun i wr => ∃ s : Nat, s ≤ t ∧ i = .int .i64 s ∧ Hid (∀ j, j < s → f j ≠ f t) ∧ Bw w wr) (fun i _ => t - (intOf i).toNat)
        case atStart => exact ⟨0, Nat.zero_le _, rfl, (fun j hj => by omega), hw⟩
        case round =>
          obtain ⟨s, hs, rfl, hne, hws⟩ := hrel
          by_cases hst : s < t
          · obtain ⟨b', o', e', hc⟩ := (ha.keep hws).resolve_left (by omega)
            cases e'
            have g1 := hc t hlt
            have g2 := hc s (by omega)
            have s0 : (0 : Int) ≤ (s : Int) := Int.natCast_nonneg _
            have s1 : (s : Int) < (l : Int) := by omega
            clear hc
            by_cases he : f s = f t
            · have he2 : (f s == f t) = true := by simp [he]
              go_wp2
              go_quiet (fail)
              go_wp2
              go_ret
              exact ⟨1, rfl, Or.inr (Or.inr (Or.inl ⟨hkn, rfl, fun hh => (hh t hlt).2 s hst he, rfl⟩)), hws.trans (Bw.drewN _ _)⟩
            · have he2 : (f s == f t) = false := by simpa using he
              go_wp2
              go_quiet (fail)
              go_wp2
              go_roundw
              case rel => exact ⟨s + 1, by omega, by go_num, (fun j hj => by by_cases e : j = s; (subst e; exact he); exact hne j (by omega)), hws.trans (Bw.drewN _ _)⟩
              case measure => simp [intOf]; omega
          · have ek : t = s := by omega
            subst ek
            go_wp2
            go_roundw
            case rel => exact ⟨t + 1, by omega, by go_num, (show Good (t + 1) n f from fun i hi => by by_cases e : i = t; (subst e; exact ⟨by omega, hne.out⟩); exact hg.out i (by omega)), hws⟩
            case measure => simp [intOf]; omega
    · have ek : l = t := by omega
      subst ek
      by_cases hfew : (l : Int) < k
      · go_wp2
        go_ret
        exact ⟨30, rfl, Or.inr (Or.inr (Or.inr (Or.inl ⟨hkn, rfl, hg.out, hfew, rfl⟩))), hw⟩
      · go_wp2_with (go_at_call 33; refine (rrows_any B l cb R L C Z (by omega) _ (hb.keep hw)).mono ?_; rintro e w1 ⟨x, rfl, hx, hw1⟩)
        go_ret
        exact ⟨x, rfl, Or.inr (Or.inr (Or.inr (Or.inr ⟨hkn, rfl, hg.out, by omega, hx⟩))), hw.trans hw1⟩

end Go.Proofs.Ytbhbdhkifkmkbaa

/- The document's own Decode. -/
namespace Go.Proofs.Ytbhbdhkifkmkbaa
open Go.RowKit

attribute [local go_sem ↓] Go.wp_at_zero Go.wp_at_succ

/-- rows that polynomials through other rows have at 0 to k - 1 are the data of those polynomials -/
theorem word_at {k : Nat} {P : Nat → Int} {Z : Nat → Nat → Int} {x c : Nat} (hk : k ≤ 256) (hx : x < 256) (hP : ∀ i, i < k → 0 ≤ P i ∧ P i < 256) (hZ : ∀ j, j < k → 0 ≤ Z j c ∧ Z j c < 256) : wordI k (fun j c => atZ k P Z (j : Int) c) x c = atZ k P Z (x : Int) c := by
  apply fi_inj (wordI_bd _ _ _ _) (atZ_bd _ _ _ _ _)
  rw [wordI_fi, at_fi (by omega) hP hZ]
  have ht := La.thro_thro k (fun j => fi (P j)) ptF ivF ivF_ok (pts_apart hk) (fun j => fm Z j c) (ptF x)
  show _ = La.thro k (fun j => fi (P j)) ivF (fun j => fm Z j c) (ptF x)
  rw [← ht]
  exact thro_congr (fun j hj => at_fi (by omega) hP hZ)

theorem at_own {k : Nat} {P : Nat → Int} {Z : Nat → Nat → Int} {i c : Nat} (hi : i < k) (hP : ∀ i, i < k → 0 ≤ P i ∧ P i < 256) (hd : ∀ a b, a < k → b < k → a ≠ b → P a ≠ P b) (hZ : ∀ j, j < k → 0 ≤ Z j c ∧ Z j c < 256) : atZ k P Z (P i) c = Z i c := by
  apply fi_inj (atZ_bd _ _ _ _ _) (hZ i hi)
  rw [at_fi (hP i hi) hP hZ, La.thro_at k (fun j => fi (P j)) ivF ivF_ok (fun a b ha hb hab e => hd a b ha hb hab (fi_inj (hP a ha) (hP b hb) e)) (fun j => fm Z j c) i hi]
  rfl

theorem good_apart {l : Nat} {n : Int} {f : Nat → Int} (h : Good l n f) {a b : Nat} (ha : a < l) (hb : b < l) (hab : a ≠ b) : f a ≠ f b := by
  rcases Nat.lt_or_gt_of_ne hab with h1 | h1
  · exact (h b hb).2 a h1
  · exact fun e => (h a ha).2 b h1 e.symm

/-- the word of these data has these shards at these numbers -/
def WordOf (k : Nat) (D : Nat → Nat → Int) (l q : Nat) (f : Nat → Int) (Z : Nat → Nat → Int) : Prop := (∀ j, j < k → ∀ c, 0 ≤ D j c ∧ D j c < 256) ∧ ∀ i, i < l → ∀ c, c < q → wordI k D (f i).toNat c = Z i c

/-- any word of the shards goes through the first k of them -/
theorem wordof_at {k l q : Nat} {n : Int} {D Z : Nat → Nat → Int} {f : Nat → Int} (hk : k ≤ 32) (hn : n ≤ 32) (hg : Good l n f) (hkl : k ≤ l) (h : WordOf k D l q f Z) {x c : Nat} (hx : x < 256) (hc : c < q) : atZ k f Z (x : Int) c = wordI k D x c :=
  at_points (p := fun j => (f j).toNat) (by omega) hx (fun j hj => by have := (hg j (by omega)).1; exact ⟨by omega, by omega⟩)
    (fun a b ha hb hab e => good_apart hg (by omega) (by omega) hab (by have h1 := (hg a (by omega)).1; have h2 := (hg b (by omega)).1; omega)) (fun j hj => (h.2 j (by omega) c hc).symm)

/-- what the first k shards give is the word, if all others lie on it -/
theorem wordof_of {k l q : Nat} {n : Int} {Z : Nat → Nat → Int} {f : Nat → Int} (hk : k ≤ 32) (hn : n ≤ 32) (hg : Good l n f) (hkl : k ≤ l) (hZ : ∀ i, i < l → ∀ c, 0 ≤ Z i c ∧ Z i c < 256) (h : ∀ i, k ≤ i → i < l → ∀ c, c < q → atZ k f Z (f i) c = Z i c) : WordOf k (fun j c => atZ k f Z (j : Int) c) l q f Z := by
  have hP : ∀ i, i < k → 0 ≤ f i ∧ f i < 256 := fun i hi => by have := (hg i (by omega)).1; omega
  refine ⟨fun j _ c => atZ_bd _ _ _ _ _, fun i hi c hc => ?_⟩
  have hfi := (hg i hi).1
  rw [word_at (by omega) (by omega) hP (fun j hj => hZ j (by omega) c), Int.toNat_of_nonneg hfi.1]
  by_cases hik : i < k
  · exact at_own hik hP (fun a b ha hb hab => good_apart hg (by omega) (by omega) hab) (fun j hj => hZ j (by omega) c)
  · exact h i (by omega) hi c hc

/-- data of one word are one -/
theorem wordof_unique {k l q : Nat} {n : Int} {D D' Z : Nat → Nat → Int} {f : Nat → Int} (hk : k ≤ 32) (hn : n ≤ 32) (hg : Good l n f) (hkl : k ≤ l) (h : WordOf k D l q f Z) (h' : WordOf k D' l q f Z) : ∀ j, j < k → ∀ c, c < q → D j c = D' j c := by
  intro j hj c hc
  refine word_same (q := fun j => (f j).toNat) (by omega) (fun j hj => h.1 j hj c) (fun j hj => h'.1 j hj c) (fun a b ha hb hab e => good_apart hg (by omega) (by omega) hab (by have h1 := (hg a (by omega)).1; have h2 := (hg b (by omega)).1; omega)) (fun j hj => by have := (hg j (by omega)).1; omega) (fun i hi => ?_) j hj
  rw [h.2 i (by omega) c hc, h'.2 i (by omega) c hc]

set_option maxRecDepth 100000 in
set_option maxHeartbeats 4000000 in
theorem rdec_ok (k : Nat) (n : Int) (B A : Option Addr) (l cb ca : Nat) (R : Nat → Option Addr) (L C : Nat → Nat) (Z : Nat → Nat → Int) (f : Nat → Int) (w : World) (hb : MatAt w B l R L C Z) (ha : IntsAt w A l f) (hca : l ≤ ca) (hcb : l ≤ cb) (hkn : KnWrong (k : Int) n 0) (hg : Good l n f) (hkl : k ≤ l) (hrw : RowsWrong l L 0) (hl : l ≤ 140737488355328) :
    Calls Try.prog 20 #[.int .i64 (k : Int), .int .i64 n, .slice B l cb, .slice A l ca] w fun e w' => Bw w w' ∧
      ((e = .returned (.tuple #[.slice none 0 0, .int .i64 31]) ∧ ¬ ∃ D, WordOf k D l (L 0) f Z) ∨
       ∃ v R' C', e = .returned (.tuple #[v, .int .i64 0]) ∧ OwnMat w' w.heap.size v k R' (fun _ => L 0) C' (fun j c => atZ k f Z (j : Int) c) ∧ WordOf k (fun j c => atZ k f Z (j : Int) c) l (L 0) f Z) := by
  obtain ⟨j0, hj0, hy0, hy1, hy2⟩ := info_parts info_row
  obtain ⟨n1, n2, n3⟩ := kn_ok hkn
  obtain ⟨l1, l2⟩ := rows_ok hrw
  have hq : L 0 ≤ 131072 := l1 0 (by omega)
  have HL : Hid (∀ r, r < l → L r = L 0) := l2
  have HL2 : Hid (∀ r, r < k → L r = L 0) := fun r hr => l2 r (by omega)
  have HP : Hid (∀ i, i < k → 0 ≤ f i ∧ f i < 256) := fun i hi => by have := (hg i (by omega)).1; omega
  have HG : Hid (Good l n f) := hg
  have hsh : ShWrong (k : Int) n l l L f 0 := Or.inr (Or.inr (Or.inr (Or.inr ⟨hkn, rfl, hg, by omega, hrw⟩)))
  clear l1 l2 hg
  obtain ⟨b1, o1, rfl, hc1⟩ := ha.resolve_left (by omega)
  obtain ⟨b2, o2, rfl, hc2⟩ := hb.at (k := 0) (by omega)
  have pk : IntsAt w (some ⟨b1, o1, none⟩) k f := Or.inr ⟨b1, o1, rfl, fun i hi => hc1 i (by omega)⟩
  have rk : MatAt w (some ⟨b2, o2, none⟩) k R L C Z := ⟨Or.inr ⟨b2, o2, rfl, fun r hr => hc2 r (by omega)⟩, fun r hr => hb.2 r (by omega)⟩
  have kca : (k : Int) ≤ (ca : Int) := by omega
  have kcb : (k : Int) ≤ (cb : Int) := by omega
  clear hc1 hc2
  go_enter Try.func20, Try.ntmps20
  go_wp2_with (go_at_call 37; refine (rsh_loop (k : Int) n _ _ l cb ca R L C Z f _ hb ha hl hkn).mono ?_; rintro e w1 ⟨x, rfl, hx, hw1⟩; obtain rfl := hx.unique hsh)
  go_loopw [13] (fun i wr => ∃ t : Nat, k ≤ t ∧ t ≤ l ∧ i = .int .i64 t ∧ Hid (∀ i, k ≤ i → i < t → ∀ c, c < L 0 → atZ k f Z (f i) c = Z i c) ∧ Bw w wr) (fun i _ => l - (intOf i).toNat)
  case atStart => exact ⟨k, Nat.le_refl _, hkl, rfl, (fun i h1 h2 => by omega), hw1⟩
  case round =>
    obtain ⟨t, hkt, htl, rfl, hon, hw⟩ := hrel
    by_cases hlt : t < l
    · obtain ⟨b1', o1', e1, hc1⟩ := (ha.keep hw).resolve_left (by omega)
      cases e1
      obtain ⟨b2', o2', e2, hc2⟩ := (hb.keep hw).at hlt
      cases e2
      have h1 := hc1 t hlt
      have h2 := hc2 t hlt
      rw [HL.out t hlt] at h2
      have hrow := (hb.2 t hlt).keep hw
      rw [HL.out t hlt] at hrow
      have hft := (HG.out t hlt).1
      have t0 : (0 : Int) ≤ (t : Int) := Int.natCast_nonneg _
      have t1 : (t : Int) < (l : Int) := by omega
      have cv0 : (convert 37 9 (.slice (R t) (L 0) (C t))).run Try.prog wr.drew = .ok (.string (str (Z t) (L 0))) wr.drew := conv_row (w := wr.drew) hrow
      have hin := str_inj (f := atZ k f Z (f t)) (g := Z t) (L := L 0) (M := L 0) (fun i => atZ_bd _ _ _ _ _) hrow.2
      clear hc1 hc2
      by_cases he : (str (atZ k f Z (f t)) (L 0)).toList = (str (Z t) (L 0)).toList
      · have he2 : ((str (atZ k f Z (f t)) (L 0)).toList == (str (Z t) (L 0)).toList) = true := by simpa using he
        go_wp2
        go_region_with (go_at_call 34; refine (rat_any _ _ k (L 0) _ _ f R L C Z (f t) _ (pk.keep (hw.drew)) (rk.keep (hw.drew)) HP HL2 (by omega) (by omega) hq (by omega) (by omega)).mono ?_; rintro e w3 ⟨g, rfl, hgg, hblk, hw3⟩; have hb3 : Bw wr w3 := ⟨hw3.os, hw3.tape, hw3.output, hw3.size, hw3.block⟩; have cvx := conv_row (C := L 0) (hblk.row (fun i => atZ_bd _ _ _ _ _)); have k2 := cell_bw hb3 h2; have cv3 := conv_row (C := C t) (hrow.keep hb3))
        all_goals
          go_wp2
          go_roundw
          case rel => exact ⟨t + 1, by omega, by omega, by go_num, (fun i h1 h2 c hc => by by_cases e : i = t; (subst e; exact (hin.1 he).2 c hc); exact hon i h1 (by omega) c hc), hw.trans hb3⟩
          case measure => simp [intOf]; omega
      · have he2 : ((str (atZ k f Z (f t)) (L 0)).toList == (str (Z t) (L 0)).toList) = false := by simpa using he
        go_wp2
        go_region_with (go_at_call 34; refine (rat_any _ _ k (L 0) _ _ f R L C Z (f t) _ (pk.keep (hw.drew)) (rk.keep (hw.drew)) HP HL2 (by omega) (by omega) hq (by omega) (by omega)).mono ?_; rintro e w3 ⟨g, rfl, hgg, hblk, hw3⟩; have hb3 : Bw wr w3 := ⟨hw3.os, hw3.tape, hw3.output, hw3.size, hw3.block⟩; have cvx := conv_row (C := L 0) (hblk.row (fun i => atZ_bd _ _ _ _ _)); have k2 := cell_bw hb3 h2; have cv3 := conv_row (C := C t) (hrow.keep hb3))
        all_goals
          go_wp2
          go_ret2
          refine ⟨hw.trans hb3, Or.inl ⟨rfl, ?_⟩⟩
          rintro ⟨D', hD⟩
          refine he (hin.2 ⟨by first | rfl | trivial, fun c hc => ?_⟩)
          have h5 := wordof_at (by omega) n3 HG.out hkl hD (x := (f t).toNat) (by omega) hc
          rw [Int.toNat_of_nonneg hft.1] at h5
          rw [h5, hD.2 t hlt c hc]
    · have ek : l = t := by omega
      subst ek
      have hword := wordof_of (q := L 0) (by omega) n3 HG.out hkl (fun i hi => (hb.2 i hi).2) hon.out
      go_wp2
      go_loopw [14, 15] (fun v i wr => ∃ (t : Nat) (R' : Nat → Option Addr) (L' C' : Nat → Nat) (Z' : Nat → Nat → Int), t ≤ k ∧ i = .int .i64 t ∧ OwnMat wr w.heap.size v t R' L' C' Z' ∧ Hid (∀ r, r < t → L' r = L 0 ∧ Z' r = fun c => atZ k f Z (r : Int) c) ∧ Bw w wr) (fun _ i _ => k - (intOf i).toNat)
      case atStart => exact ⟨0, fun _ => none, fun _ => 0, fun _ => 0, Z, Nat.zero_le _, rfl, OwnMat.nil _ _ _ _ _ _, (fun r hr => by omega), hw⟩
      case round =>
        obtain ⟨t, R', L', C', Z', ht, rfl, hmat, hsame, hwr⟩ := hrel
        by_cases hlt : t < k
        · have hsz := hwr.size
          have hmx2 : t + 1 ≤ maxLen := by unfold maxLen; omega
          go_wp2_with (first
            | (go_at_call 34; refine (rat_any _ _ k (L 0) _ _ f R L C Z (t : Int) _ (pk.keep hwr) (rk.keep hwr) HP HL2 (by omega) (by omega) hq (by omega) (by omega)).mono ?_; rintro e w3 ⟨g, rfl, hgg, hblk, b3⟩; have hs2 := b3.size; have hgl : g < w3.heap.size := (by obtain ⟨cur, hcur, _⟩ := hblk; exact (Array.getElem?_eq_some_iff.1 hcur).1))
            | (at_builtin; refine wpList_append_lies _ (by rfl) (.tmp 56) (.tmp 61) _ (by rfl) w.heap.size 37 j0 _ 1 24 Try.underlying22 hj0 hy0 hy1 hy2 rfl (by omega) _ _ _ (by rfl) ((own_keep hmat.own b3).alloc _) ⟨w3.heap.size, 0, none⟩ 1 1 [.slice (some ⟨g, 0, none⟩) (L 0) (L 0)] (by rfl) (by rfl) (World.news_of_block (cs := #[.slice (some ⟨g, 0, none⟩) (L 0) (L 0)]) (t := 37) (fr := (0, 0)) (heap_alloc_new w3 _)) (by simp [Value.oneCell']) (by omega) hmx2 (by omega) (by simp; have := b3.size; omega) (w3.heap.size + 1) (by simp) ?_; intro gg c2 w4 hown2 hgrow2 hat hlt'))
          have hrow : RowAt w3 (some ⟨g, 0, none⟩) (L 0) (atZ k f Z (t : Int)) := hblk.row (fun i => atZ_bd _ _ _ _ _)
          have hp := OwnMat.push hmat b3 hsz hrow ⟨Nat.le_refl _, by unfold maxLen; omega⟩ (fun a ha => by cases ha; exact ⟨hgg, hgl⟩) hgrow2 hat hown2
          go_roundw
          case rel => exact ⟨t + 1, _, _, _, _, by omega, by go_num, hp.1, same_upd (L := fun _ => L 0) (Z := fun j c => atZ k f Z (j : Int) c) hsame, hwr.trans' hp.2⟩
          case measure => simp [intOf]; omega
        · have ek : k = t := by omega
          subst ek
          go_wp2
          go_ret2
          exact ⟨hwr, Or.inr ⟨_, _, _, rfl, hmat.congr hsame, hword⟩⟩

end Go.Proofs.Ytbhbdhkifkmkbaa

/- The document's own Decode and Rebuild for whatever shards. -/
namespace Go.Proofs.Ytbhbdhkifkmkbaa
open Go.RowKit

theorem rsh_bad (k n : Int) (B A : Option Addr) (m l cb ca : Nat) (x : Int) (w : World) (hx : KnWrong k n x) (h0 : x ≠ 0) :
    Calls Try.prog 37 #[.int .i64 k, .int .i64 n, .slice B m cb, .slice A l ca] w fun e w' => e = .returned (.int .i64 x) ∧ w' = w := by
  have e2 : (x != 0) = true := by simpa using h0
  go_enter Try.func37, Try.ntmps37
  go_wp2_with (go_at_call 29; refine (rkn_any _ _ _).mono ?_; rintro e w' ⟨y, rfl, hy, hw'⟩; subst w'; obtain rfl := hy.unique hx)
  go_ret
  exact ⟨rfl, rfl⟩

theorem rsh_shape (k n : Int) (B A : Option Addr) (m l cb ca : Nat) (w : World) (hx : KnWrong k n 0) (h0 : m ≠ l) :
    Calls Try.prog 37 #[.int .i64 k, .int .i64 n, .slice B m cb, .slice A l ca] w fun e w' => e = .returned (.int .i64 6) ∧ w' = w := by
  have e2 : ((m : Int) != (l : Int)) = true := by simp; omega
  go_enter Try.func37, Try.ntmps37
  go_wp2_with (go_at_call 29; refine (rkn_any _ _ _).mono ?_; rintro e w' ⟨y, rfl, hy, hw'⟩; subst w'; obtain rfl := hy.unique hx)
  go_ret
  exact ⟨rfl, rfl⟩

theorem rsh_all (k n : Int) (B A : Option Addr) (m l cb ca : Nat) (R : Nat → Option Addr) (L C : Nat → Nat) (Z : Nat → Nat → Int) (f : Nat → Int) (w : World) (hb : MatAt w B m R L C Z) (ha : IntsAt w A l f) (hl : l ≤ 140737488355328) :
    Calls Try.prog 37 #[.int .i64 k, .int .i64 n, .slice B m cb, .slice A l ca] w fun e w' => ∃ x, e = .returned (.int .i64 x) ∧ ShWrong k n m l L f x ∧ Bw w w' := by
  obtain ⟨x, hx⟩ := kn_some k n
  by_cases h0 : x = 0
  · subst h0
    by_cases h1 : m = l
    · subst h1
      exact rsh_loop k n B A m cb ca R L C Z f w hb ha hl hx
    · refine (rsh_shape k n B A m l cb ca w hx h1).mono ?_
      rintro e w' ⟨he, rfl⟩
      exact ⟨6, he, Or.inr (Or.inl ⟨hx, h1, rfl⟩), Bw.refl _⟩
  · refine (rsh_bad k n B A m l cb ca x w hx h0).mono ?_
    rintro e w' ⟨he, rfl⟩
    exact ⟨x, he, Or.inl ⟨hx, h0⟩, Bw.refl _⟩

theorem sh_some (k n : Int) (m l : Nat) (L : Nat → Nat) (f : Nat → Int) : ∃ x, ShWrong k n m l L f x := by
  obtain ⟨x, hx⟩ := kn_some k n
  by_cases h0 : x = 0
  · subst h0
    by_cases h1 : m = l
    · by_cases h2 : Good l n f
      · by_cases h3 : (l : Int) < k
        · exact ⟨30, Or.inr (Or.inr (Or.inr (Or.inl ⟨hx, h1, h2, h3, rfl⟩)))⟩
        · obtain ⟨y, hy⟩ := rows_some m L
          exact ⟨y, Or.inr (Or.inr (Or.inr (Or.inr ⟨hx, h1, h2, by omega, hy⟩)))⟩
      · exact ⟨1, Or.inr (Or.inr (Or.inl ⟨hx, h1, h2, rfl⟩))⟩
    · exact ⟨6, Or.inr (Or.inl ⟨hx, h1, rfl⟩)⟩
  · exact ⟨x, Or.inl ⟨hx, h0⟩⟩

theorem sh_ok {k n : Int} {m l : Nat} {L : Nat → Nat} {f : Nat → Int} (h : ShWrong k n m l L f 0) : KnWrong k n 0 ∧ m = l ∧ Good l n f ∧ k ≤ (l : Int) ∧ RowsWrong m L 0 := by
  rcases h with ⟨_, h⟩ | ⟨_, _, h⟩ | ⟨_, _, _, h⟩ | ⟨_, _, _, _, h⟩ | h
  · exact absurd rfl h
  · cases h
  · cases h
  · cases h
  · exact h

/-- what Decode says: its errors, its shape, and whose word it is -/
def DecSays (k n : Int) (m l : Nat) (L : Nat → Nat) (f : Nat → Int) (Z : Nat → Nat → Int) (x : Int) (kk : Nat) (D : Nat → Nat → Int) : Prop :=
  (ShWrong k n m l L f x ∧ x ≠ 0 ∧ kk = 0) ∨ (ShWrong k n m l L f 0 ∧ x = 31 ∧ kk = 0 ∧ ¬ ∃ D, WordOf k.toNat D l (L 0) f Z) ∨ (ShWrong k n m l L f 0 ∧ x = 0 ∧ kk = k.toNat ∧ WordOf k.toNat D l (L 0) f Z)

theorem decsays_unique {k n : Int} {m l : Nat} {L : Nat → Nat} {f : Nat → Int} {Z : Nat → Nat → Int} {x x' : Int} {kk kk' : Nat} {D D' : Nat → Nat → Int} (h : DecSays k n m l L f Z x kk D) (h' : DecSays k n m l L f Z x' kk' D') :
    x = x' ∧ kk = kk' ∧ ∀ j, j < kk → ∀ c, c < L 0 → D j c = D' j c := by
  rcases h with ⟨a, b, c⟩ | ⟨a, b, c, d⟩ | ⟨a, b, c, d⟩ <;> rcases h' with ⟨a', b', c'⟩ | ⟨a', b', c', d'⟩ | ⟨a', b', c', d'⟩
  · exact ⟨a.unique a', by omega, fun j hj => by omega⟩
  · exact absurd (a.unique a') b
  · exact absurd (a.unique a') b
  · exact absurd (a'.unique a) b'
  · exact ⟨by omega, by omega, fun j hj => by omega⟩
  · exact absurd ⟨_, d'⟩ d
  · exact absurd (a'.unique a) b'
  · exact absurd ⟨_, d⟩ d'
  · obtain ⟨h1, h2, h3, h4, h5⟩ := sh_ok a
    have hk := kn_ok h1
    refine ⟨by omega, by omega, fun j hj c hc => ?_⟩
    exact wordof_unique (by omega) hk.2.2 h3 (by omega) d d' j (by omega) c hc

theorem rdec_bad (k n : Int) (B A : Option Addr) (m l cb ca : Nat) (R : Nat → Option Addr) (L C : Nat → Nat) (Z : Nat → Nat → Int) (f : Nat → Int) (w : World) (hb : MatAt w B m R L C Z) (ha : IntsAt w A l f) (hl : l ≤ 140737488355328) (x : Int) (hx : ShWrong k n m l L f x) (h0 : x ≠ 0) :
    Calls Try.prog 20 #[.int .i64 k, .int .i64 n, .slice B m cb, .slice A l ca] w fun e w' => e = .returned (.tuple #[.slice none 0 0, .int .i64 x]) ∧ Bw w w' := by
  have e2 : (x != 0) = true := by simpa using h0
  go_enter Try.func20, Try.ntmps20
  go_wp2_with (go_at_call 37; refine (rsh_all k n B A m l cb ca R L C Z f _ hb ha hl).mono ?_; rintro e w1 ⟨y, rfl, hy, hw1⟩; obtain rfl := hy.unique hx)
  go_ret2
  exact ⟨rfl, hw1⟩

theorem rdec_all (k n : Int) (B A : Option Addr) (m l cb ca : Nat) (R : Nat → Option Addr) (L C : Nat → Nat) (Z : Nat → Nat → Int) (f : Nat → Int) (w : World) (hb : MatAt w B m R L C Z) (ha : IntsAt w A l f) (hca : l ≤ ca) (hcb : m ≤ cb) (hl : l ≤ 140737488355328) :
    Calls Try.prog 20 #[.int .i64 k, .int .i64 n, .slice B m cb, .slice A l ca] w fun e w' => ∃ v x kk D, e = .returned (.tuple #[v, .int .i64 x]) ∧ MatVal3 w' v kk (fun _ => L 0) D ∧ DecSays k n m l L f Z x kk D ∧ Bw w w' := by
  obtain ⟨x, hx⟩ := sh_some k n m l L f
  by_cases h0 : x = 0
  · subst h0
    obtain ⟨h1, rfl, h3, h4, h5⟩ := sh_ok hx
    obtain ⟨k', rfl⟩ := Int.eq_ofNat_of_zero_le (show 0 ≤ k by have := kn_ok h1; omega)
    refine (rdec_ok k' n B A m cb ca R L C Z f w hb ha hca hcb h1 h3 (by omega) h5 hl).mono ?_
    rintro e w' ⟨hw, ⟨he, hno⟩ | ⟨v, R', C', he, hm, hword⟩⟩
    · exact ⟨_, 31, 0, Z, he, val3_none _ _ _, Or.inr (Or.inl ⟨hx, rfl, rfl, hno⟩), hw⟩
    · exact ⟨v, 0, k', _, he, hm.val3, Or.inr (Or.inr ⟨hx, rfl, rfl, hword⟩), hw⟩
  · refine (rdec_bad k n B A m l cb ca R L C Z f w hb ha hl x hx h0).mono ?_
    rintro e w' ⟨he, hw⟩
    exact ⟨_, x, 0, Z, he, val3_none _ _ _, Or.inl ⟨hx, h0, rfl⟩, hw⟩

end Go.Proofs.Ytbhbdhkifkmkbaa

/- Layer 3's statements' own tests: what is great; two matrices held side by side, told as a call that only reads. -/
namespace Go.Proofs.Ytbhbdhkifkmkbaa
open Go.RowKit

set_option maxHeartbeats 1000000 in
theorem rsame_quiet (A B : Option Addr) (n m ca cb : Nat) (R S : Nat → Option Addr) (L C M D : Nat → Nat) (Z Y : Nat → Nat → Int) (hn : n ≤ 9223372036854775807) (w : World) (ha : MatAt w A n R L C Z) (hb : MatAt w B m S M D Y) :
    Calls Try.prog 15 #[.slice A n ca, .slice B m cb] w fun e w' => ∃ x, e = .returned (.bool x) ∧ (x = true ↔ SameM n m L M Z Y) ∧ ∃ q, w' = w.drewN q := by
  by_cases hnm : n = m
  · subst hnm
    go_enter Try.func15, Try.ntmps15
    go_wp2
    go_loopw [5] (fun i wr => ∃ k : Nat, k ≤ n ∧ i = .int .i64 k ∧ Hid (∀ r, r < k → L r = M r ∧ ∀ i, i < L r → Z r i = Y r i) ∧ ∃ q, wr = w.drewN q) (fun i _ => n - (intOf i).toNat)
    case atStart => exact ⟨0, Nat.zero_le _, rfl, (fun r hr => by omega), 0, rfl⟩
    case round =>
      obtain ⟨k, hk, rfl, hsame, q0, rfl⟩ := hrel
      have hw : Bw w (w.drewN q0) := Bw.drewN _ _
      by_cases hlt : k < n
      · obtain ⟨b1, o1, rfl, hc1⟩ := ha.at hlt
        obtain ⟨b2, o2, rfl, hc2⟩ := hb.at hlt
        have h1 := hc1 k hlt
        have h2 := hc2 k hlt
        have r1 := ha.2 k hlt
        have r2 := hb.2 k hlt
        have cv1 : ∀ q, (convert 37 9 (.slice (R k) (L k) (C k))).run Try.prog (w.drewN q) = .ok (.string (str (Z k) (L k))) (w.drewN q) := fun q => conv_row (r1.keep (Bw.drewN _ q))
        have cv2 : ∀ q, (convert 37 9 (.slice (S k) (M k) (D k))).run Try.prog (w.drewN q) = .ok (.string (str (Y k) (M k))) (w.drewN q) := fun q => conv_row (r2.keep (Bw.drewN _ q))
        have hk0 : (0 : Int) ≤ (k : Int) := Int.natCast_nonneg _
        have hk1 : (k : Int) < (n : Int) := by omega
        have hin := str_inj (L := L k) (M := M k) r1.2 r2.2
        clear hc1 hc2
        by_cases he : (str (Z k) (L k)).toList = (str (Y k) (M k)).toList
        · have he2 : ((str (Z k) (L k)).toList == (str (Y k) (M k)).toList) = true := by simpa using he
          go_wp2
          go_quiet (fail)
          go_wp2
          go_roundw
          case rel => exact ⟨k + 1, by omega, by go_num, (fun r hr => by by_cases e : r = k; (subst e; exact hin.1 he); exact hsame r (by omega)), by first | exact ⟨_, World.drewN_drewN _ _ _⟩ | exact ⟨_, rfl⟩⟩
          case measure => simp [intOf]; omega
        · have he2 : ((str (Z k) (L k)).toList == (str (Y k) (M k)).toList) = false := by simpa using he
          go_wp2
          go_quiet (fail)
          go_wp2
          go_ret
          exact ⟨false, rfl, ⟨fun h => (by cases h), fun h => absurd (hin.2 (h.2 k hlt)) he⟩, by first | exact ⟨_, World.drewN_drewN _ _ _⟩ | exact ⟨_, rfl⟩⟩
      · have ek : n = k := by omega
        subst ek
        go_wp2
        go_ret
        exact ⟨true, rfl, ⟨fun _ => ⟨rfl, hsame.out⟩, fun _ => rfl⟩, q0, rfl⟩
  · have hne : ((n : Int) != (m : Int)) = true := by simp; omega
    go_enter Try.func15, Try.ntmps15
    go_wp2
    go_ret
    exact ⟨false, rfl, ⟨fun h => (by cases h), fun h => absurd h.1 hnm⟩, 0, rfl⟩


/-- how many numbers as far as row k -/
def bulk3 (L : Nat → Nat) : Nat → Nat
  | 0 => 0
  | k + 1 => bulk3 L k + L k
/-- great, as layer 3's statements mean it -/
def great3 (n : Nat) (L : Nat → Nat) : Bool := decide (100 < n) || decide (2048 < bulk3 L (min n 101))

theorem bulk3_bd (L : Nat → Nat) (B : Nat) : ∀ k, (∀ r, r < k → L r ≤ B) → bulk3 L k ≤ k * B
  | 0, _ => Nat.zero_le _
  | k + 1, h => by
    have h1 := bulk3_bd L B k (fun r hr => h r (by omega))
    have h2 := h k (by omega)
    rw [Nat.succ_mul]
    show bulk3 L k + L k ≤ k * B + B
    omega
theorem bulk3_le (L : Nat → Nat) : ∀ k r, r < k → L r ≤ bulk3 L k
  | 0, r, hr => by omega
  | k + 1, r, hr => by
    show L r ≤ bulk3 L k + L k
    by_cases e : r = k
    · subst e; omega
    · have := bulk3_le L k r (by omega); omega
theorem great3_no {n : Nat} {L : Nat → Nat} (h : great3 n L = false) : n ≤ 100 ∧ ∀ r, r < n → L r ≤ 2048 := by
  unfold great3 at h
  rw [Bool.or_eq_false_iff, decide_eq_false_iff_not, decide_eq_false_iff_not] at h
  refine ⟨by omega, fun r hr => ?_⟩
  have := bulk3_le L (min n 101) r (by omega)
  omega

set_option maxRecDepth 100000 in
theorem great3_any (A : Option Addr) (n cap : Nat) (R : Nat → Option Addr) (L C : Nat → Nat) (Z : Nat → Nat → Int) (hL : ∀ r, r < n → L r ≤ 140737488355328) (hn : n ≤ 140737488355328) (w : World) (h : MatAt w A n R L C Z) :
    Calls Try.prog 9 #[.slice A n cap] w fun e w' => e = .returned (.bool (great3 n L)) ∧ w' = w := by
  have HB : Hid (∀ k, k ≤ n → k ≤ 101 → bulk3 L k ≤ 14214486323888128) := fun k hk h1 => by
    have h2 := bulk3_bd L 140737488355328 k (fun r hr => hL r (by omega))
    have h3 := Nat.mul_le_mul_right 140737488355328 h1
    omega
  go_enter Try.func9, Try.ntmps9
  go_wp2
  go_loopw [3, 4] (fun s i wr => ∃ k : Nat, k ≤ n ∧ k ≤ 101 ∧ i = .int .i64 k ∧ s = .int .i64 (bulk3 L k : Int) ∧ wr = w) (fun _ i _ => 101 - (intOf i).toNat)
  case atStart => exact ⟨0, Nat.zero_le _, by omega, rfl, rfl, rfl⟩
  case round =>
    obtain ⟨k, hk, hk1, rfl, rfl, e⟩ := hrel
    subst e
    by_cases hlt : k < n ∧ k ≤ 100
    · obtain ⟨b, off, rfl, hc⟩ := h.at hlt.1
      have h1 := hc k hlt.1
      have h2 := HB.out k hk hk1
      have h3 := hL k hlt.1
      have k0 : (0 : Int) ≤ (k : Int) := Int.natCast_nonneg _
      have k1 : (k : Int) < (n : Int) := by omega
      have k2 : (k : Int) ≤ 100 := by omega
      clear hc
      go_wp2
      go_roundw
      case rel => exact ⟨k + 1, by omega, by omega, by go_num, (by show Value.int .i64 ((bulk3 L k : Int) + (L k : Int)) = .int .i64 ((bulk3 L k + L k : Nat) : Int); rw [Int.natCast_add]), by first | rfl | trivial⟩
      case measure => simp [intOf]; omega
    · have em : min n 101 = k := by omega
      have eg : Hid (great3 n L = (decide (100 < n) || decide (2048 < bulk3 L k))) := show great3 n L = (decide (100 < n) || decide (2048 < bulk3 L k)) by unfold great3; rw [em]
      clear em
      by_cases g1 : 100 < n
      · have d1 : decide (100 < n) = true := decide_eq_true g1
        rcases (show (k : Int) < (n : Int) ∨ ¬ (k : Int) < (n : Int) by omega) with g2 | g2
        · have g3 : ¬ (k : Int) ≤ 100 := by omega
          go_wp2
          go_ret
          exact ⟨ret_of_bool (a := true) (by rw [eg.out, decide_eq_true g1, Bool.true_or]), rfl⟩
        · go_wp2
          go_ret
          exact ⟨ret_of_bool (a := true) (by rw [eg.out, decide_eq_true g1, Bool.true_or]), rfl⟩
      · have g2 : ¬ (k : Int) < (n : Int) := by omega
        have g5 : ¬ (100 : Int) < (n : Int) := by omega
        by_cases g4 : 2048 < bulk3 L k
        · have g6 : (2048 : Int) < (bulk3 L k : Int) := by omega
          go_wp2
          go_ret
          exact ⟨ret_of_bool (a := true) (by rw [eg.out, decide_eq_true g4, Bool.or_true]), rfl⟩
        · have g6 : ¬ (2048 : Int) < (bulk3 L k : Int) := by omega
          go_wp2
          go_ret
          exact ⟨ret_of_bool (a := false) (by rw [eg.out, decide_eq_false g4, decide_eq_false g1]; rfl), rfl⟩

end Go.Proofs.Ytbhbdhkifkmkbaa

/- What a call is told of rows of bytes and of matrices that came in. -/
namespace Go.Proofs.Ytbhbdhkifkmkbaa
open Go.ChangeShapes Go.WideShapes Go.RowKit Go.Deep

theorem cells_plain {w : World} {a : Addr} {n : Nat} {V : Nat → Value} (h : ∀ i, i < n → w.cell? (a.add i) = some (V i)) (hp : 0 < n) :
    ∃ b off, a = ⟨b, off, none⟩ ∧ ∀ j, j < n → w.cell? ⟨b, off + j, none⟩ = some (V j) := by
  obtain ⟨b, off, spot⟩ := a
  have hspot : spot = none := by simpa [Addr.add] using World.cell?_spot (h 0 hp)
  subst hspot
  exact ⟨b, off, rfl, fun j hj => by rw [← Go.WideShapes.add_plain]; exact h j hj⟩

theorem byte_of (zs : List Int) (h : ∀ n ∈ zs, (Lit.int .u8 n).wf = true) (i : Nat) : 0 ≤ zs.getD i 0 ∧ zs.getD i 0 < 256 := by
  rcases Nat.lt_or_ge i zs.length with hi | hi
  · have := bounds_u8 (h zs[i] (List.getElem_mem hi))
    rw [List.getD_eq_getElem?_getD, List.getElem?_eq_getElem hi]
    simp only [Option.getD_some]
    omega
  · rw [List.getD_eq_getElem?_getD, List.getElem?_eq_none hi]
    decide

/-- a row of bytes that came in -/
structure InRow (w : World) (A : Option Addr) (n cap : Nat) (f : Nat → Int) : Prop where
  row : RowAt w A n f
  le : n ≤ cap
  room : cap ≤ 140737488351232
  nil : A = none → cap = 0

/-- a matrix that came in -/
structure InMat (w : World) (A : Option Addr) (n cap : Nat) (R : Nat → Option Addr) (L C : Nat → Nat) (Z : Nat → Nat → Int) : Prop where
  mat : MatAt w A n R L C Z
  le : n ≤ cap
  room : cap * 24 ≤ 140737488351232
  rows : ∀ r, r < n → L r ≤ C r ∧ C r ≤ 140737488351232 ∧ (R r = none → C r = 0)

theorem open_bytes {H : Type} {enc : TypeId × Value → H} {W : World} {A : Option Addr} {n cap : Nat} {d : DataW H} {p : List MemPlace}
    (h : DataW.Trod enc Try.prog W 0 (fun _ => true) true 37 (.slice A n cap) d p) (hw : ∀ x ∈ d.weights Try.prog 37, x ≤ reachBytes) : ∃ f, InRow W A n cap f := by
  obtain ⟨fuel, hf⟩ := h
  rcases open_ints Try.underlying37 Try.underlying5 (by kernel_rfl) hf with ⟨hcs, _⟩ | ⟨x, l, c, zs, hcs, _, hl, hm, hz, hd, hcell, hwz⟩
  · simp [Value.cells] at hcs
    obtain ⟨rfl, rfl, rfl⟩ := hcs
    exact ⟨fun _ => 0, ⟨Or.inl rfl, fun _ => by show (0 : Int) ≤ 0 ∧ (0 : Int) < 256; decide⟩, Nat.le_refl _, Nat.zero_le _, fun _ => rfl⟩
  · simp [Value.cells] at hcs
    obtain ⟨rfl, rfl, rfl⟩ := hcs
    simp only [Prod.mk.injEq] at hd
    obtain ⟨rfl, _⟩ := hd
    simp only [if_true] at hz
    have hb : Try.prog.bytesOf 5 = 1 := by kernel_rfl
    have hcap : n ≤ cap ∧ cap ≤ 140737488351232 := by
      have := hw ((zs.take n).length * 1 + (zs.drop n).length * 1) (by
        simp only [DataW.weights, Try.underlying37, hb, lits, List.length_map]
        exact List.mem_cons.2 (Or.inl (by omega)))
      simp only [List.length_take, List.length_drop, reachBytes] at this
      omega
    refine ⟨fun i => zs.getD i 0, ⟨?_, byte_of zs hwz⟩, hcap.1, hcap.2, fun e => by cases e⟩
    rcases Nat.eq_zero_or_pos n with h0 | h0
    · exact Or.inl h0
    · obtain ⟨b, off, rfl, hc⟩ := cells_plain (n := zs.length) (V := fun i => .int .u8 (zs.getD i 0)) hcell (by omega)
      exact Or.inr ⟨b, off, rfl, fun i hi => hc i (by omega)⟩

theorem open_rows {H : Type} {enc : TypeId × Value → H} {W : World} {A : Option Addr} {n cap : Nat} {d : DataW H} {p : List MemPlace}
    (h : DataW.Trod enc Try.prog W 0 (fun _ => true) true 22 (.slice A n cap) d p) (hw : ∀ x ∈ d.weights Try.prog 22, x ≤ reachBytes) : ∃ R L C Z, InMat W A n cap R L C Z := by
  obtain ⟨fuel, hf⟩ := h
  rcases open_int_rows Try.underlying22 Try.underlying37 Try.underlying5 (by kernel_rfl) (by kernel_rfl) hf with ⟨hcs, _⟩ | ⟨x, l, c, R, L, C, Z, hcs, _, hl, hm, hd, hcell⟩
  · simp [Value.cells] at hcs
    obtain ⟨rfl, rfl, rfl⟩ := hcs
    exact ⟨fun _ => none, fun _ => 0, fun _ => 0, fun _ _ => 0, ⟨Or.inl rfl, fun r hr => by omega⟩, Nat.le_refl _, Nat.zero_le _, fun r hr => by omega⟩
  · simp [Value.cells] at hcs
    obtain ⟨rfl, rfl, rfl⟩ := hcs
    simp only [Prod.mk.injEq] at hd
    obtain ⟨rfl, _⟩ := hd
    have hb : Try.prog.bytesOf 5 = 1 := by kernel_rfl
    have hb2 : Try.prog.bytesOf 37 = 24 := by kernel_rfl
    have hcap : cap * 24 ≤ 140737488351232 := by
      have := hw ((n + (cap - n)) * 24) (by
        simp only [DataW.weights, Try.underlying22, hb2, List.length_map, List.length_range]
        exact List.mem_cons_self)
      simp only [reachBytes] at this
      omega
    have hin : ∀ (e : TypeId) (ds : List (DataW H)) (y : DataW H), y ∈ ds → ∀ u ∈ y.weights Try.prog e, u ∈ DataW.weightsAll Try.prog e ds := by
      intro e ds
      induction ds with
      | nil => intro y hy; cases hy
      | cons d0 ds ih =>
        intro y hy u hu
        simp only [DataW.weightsAll, List.mem_append]
        rcases List.mem_cons.1 hy with rfl | hy
        · exact Or.inl hu
        · exact Or.inr (ih y hy u hu)
    have hrow : ∀ r, r < n → C r ≤ 140737488351232 := fun r hr => by
      obtain ⟨_, hLC, _, hZ, _, hnil, _⟩ := hcell r (by omega)
      cases hR : R r with
      | none => rw [hnil hR]; omega
      | some a' =>
        have := hw (((Z r).take (L r)).length * 1 + ((Z r).drop (L r)).length * 1) (by
          simp only [DataW.weights, Try.underlying22]
          refine List.mem_cons.2 (Or.inr (List.mem_append.2 (Or.inl ?_)))
          refine hin _ _ (intRow .u8 (R r) (L r) (Z r)) (List.mem_map.2 ⟨r, List.mem_range.2 hr, rfl⟩) _ ?_
          simp only [intRow, hR, DataW.weights, Try.underlying37, hb, lits, List.length_map]
          exact List.mem_cons.2 (Or.inl (by omega)))
        simp only [List.length_take, List.length_drop, reachBytes] at this
        omega
    refine ⟨R, L, C, fun r i => (Z r).getD i 0, ⟨?_, fun r hr => ?_⟩, hl, hcap, fun r hr => ?_⟩
    · rcases Nat.eq_zero_or_pos n with h0 | h0
      · exact Or.inl h0
      · obtain ⟨b, off, rfl, hc⟩ := cells_plain (n := cap) (V := fun r => .slice (R r) (L r) (C r)) (fun i hi => (hcell i hi).1) (by omega)
        exact Or.inr ⟨b, off, rfl, fun i hi => hc i (by omega)⟩
    · obtain ⟨_, hLC, _, hZ, hwz, hnil, hc⟩ := hcell r (by omega)
      refine ⟨?_, byte_of (Z r) hwz⟩
      rcases Nat.eq_zero_or_pos (L r) with h0 | h0
      · exact Or.inl h0
      · cases hR : R r with
        | none => have := hnil hR; omega
        | some a' =>
          obtain ⟨b, off, rfl, hc'⟩ := cells_plain (n := C r) (V := fun i => .int .u8 ((Z r).getD i 0)) ((hc a' hR).2) (by omega)
          exact Or.inr ⟨b, off, rfl, fun i hi => hc' i (by omega)⟩
    · obtain ⟨_, hLC, _, hZ, hwz, hnil, hc⟩ := hcell r (by omega)
      exact ⟨hLC, hrow r hr, hnil⟩

theorem laidOut : laidOutB Try.prog = true := by kernel_rfl
theorem own : ownKnob Try.prog.godebug = none := by kernel_rfl

end Go.Proofs.Ytbhbdhkifkmkbaa
