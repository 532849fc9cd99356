/- Texts of mine, put together. -/
import Derived.Test.YtbhbdhkifkmkbaaB3

set_option linter.unusedVariables false

/- The document's own Encode. -/
namespace Go.Proofs.Ytbhbdhkifkmkbaa
open Go.RowKit

/-- what Encode's errors and shape are -/
def EncSays (k : Nat) (L : Nat → Nat) (N x : Int) (kk : Nat) : Prop :=
  (KnWrong (k : Int) N x ∧ x ≠ 0 ∧ kk = 0) ∨ (KnWrong (k : Int) N 0 ∧ RowsWrong k L x ∧ x ≠ 0 ∧ kk = 0) ∨ (KnWrong (k : Int) N 0 ∧ RowsWrong k L 0 ∧ x = 0 ∧ (kk : Int) = N)
theorem encsays_unique {k kk kk' : Nat} {L : Nat → Nat} {N x x' : Int} (h : EncSays k L N x kk) (h' : EncSays k L N x' kk') : x = x' ∧ kk = kk' := by
  rcases h with ⟨a, b, c⟩ | ⟨a, b, c, d⟩ | ⟨a, b, c, d⟩ <;> rcases h' with ⟨a', b', c'⟩ | ⟨a', b', c', d'⟩ | ⟨a', b', c', d'⟩
  · exact ⟨a.unique a', by omega⟩
  · exact absurd (a.unique a') b
  · exact absurd (a.unique a') b
  · exact absurd (a'.unique a) b'
  · exact ⟨b.unique b', by omega⟩
  · exact absurd (b.unique b') c
  · exact absurd (a'.unique a) b'
  · exact absurd (b'.unique b) c'
  · exact ⟨by omega, by omega⟩

theorem kn_ok {k n : Int} (h : KnWrong k n 0) : 1 ≤ k ∧ k ≤ n ∧ n ≤ 32 := by unfold KnWrong at h; omega
theorem rows_ok {k : Nat} {L : Nat → Nat} (h : RowsWrong k L 0) : (∀ r, r < k → L r ≤ 131072) ∧ ∀ r, r < k → L r = L 0 := by
  rcases h with ⟨h, _⟩ | ⟨h, _⟩ | ⟨_, h⟩
  · cases h
  · cases h
  · exact h

set_option maxRecDepth 100000 in
set_option maxHeartbeats 2000000 in
theorem renc_ok (A : Option Addr) (k n cap : Nat) (R : Nat → Option Addr) (L C : Nat → Nat) (Z : Nat → Nat → Int) (w : World) (h : MatAt w A k R L C Z) (hkn : KnWrong (k : Int) (n : Int) 0) (hrw : RowsWrong k L 0) :
    Calls Try.prog 17 #[.slice A k cap, .int .i64 (n : Int)] w fun e w' => ∃ v R' C', e = .returned (.tuple #[v, .int .i64 0]) ∧ OwnMat w' w.heap.size v n R' (fun _ => L 0) C' (wordI k Z) ∧ Bw w w' := by
  obtain ⟨j0, hj0, hy0, hy1, hy2⟩ := info_parts info_row
  obtain ⟨n1, n2, n3⟩ := kn_ok hkn
  obtain ⟨l1, l2⟩ := rows_ok hrw
  have hq : L 0 ≤ 131072 := l1 0 (by omega)
  have HL : Hid (∀ r, r < k → L r = L 0) := l2
  have HP : Hid (∀ i, i < k → 0 ≤ ((i : Nat) : Int) ∧ ((i : Nat) : Int) < 256) := fun i hi => by omega
  clear l1 l2
  go_enter Try.func17, Try.ntmps17
  go_wp2_with (first
    | (go_at_call 29; refine (rkn_any _ _ _).mono ?_; rintro e w' ⟨x, rfl, hx, hw'⟩; subst w'; obtain rfl := hx.unique hkn)
    | (go_at_call 33; refine (rrows_any A k cap R L C Z (by omega) _ h).mono ?_; rintro e w1 ⟨x, rfl, hx, hw1⟩; obtain rfl := hx.unique hrw))
  go_loopw [7, 8] (fun v i wr => ∃ (t : Nat) (R' : Nat → Option Addr) (L' C' : Nat → Nat) (Z' : Nat → Nat → Int), t ≤ n ∧ i = .int .i64 t ∧ OwnMat wr w.heap.size v t R' L' C' Z' ∧ Hid (∀ r, r < t → L' r = L 0 ∧ Z' r = wordI k Z r) ∧ Bw w wr) (fun _ i _ => n - (intOf i).toNat)
  case atStart => exact ⟨0, fun _ => none, fun _ => 0, fun _ => 0, Z, Nat.zero_le _, rfl, OwnMat.nil _ _ _ _ _ _, (fun r hr => by omega), hw1⟩
  case round =>
    obtain ⟨t, R', L', C', Z', ht, rfl, hmat, hsame, hwr⟩ := hrel
    by_cases hlt : t < n
    · have hsz := hwr.size
      have hmx2 : t + 1 ≤ maxLen := by unfold maxLen; omega
      go_wp2_with (first
        | (go_at_call 31; refine (rfirst_any k (by omega) _).mono ?_; rintro e w2 ⟨A2, cap2, rfl, hi2, hw2⟩)
        | (go_at_call 34; refine (rat_any A2 A k (L 0) cap2 cap (fun i => (i : Int)) R L C Z (t : Int) _ hi2 (h.keep (hwr.trans hw2)) HP HL (by omega) (by omega) hq (by omega) (by omega)).mono ?_; rintro e w3 ⟨g, rfl, hg, hblk, hw3⟩; have b3 : Bw wr w3 := hw2.trans hw3; have hs2 := hw2.size; have hgl : g < w3.heap.size := (by obtain ⟨cur, hcur, _⟩ := hblk; exact (Array.getElem?_eq_some_iff.1 hcur).1))
        | (at_builtin; refine wpList_append_lies _ (by rfl) (.tmp 25) (.tmp 32) _ (by rfl) w.heap.size 37 j0 _ 1 24 Try.underlying22 hj0 hy0 hy1 hy2 rfl (by omega) _ _ _ (by rfl) ((own_keep hmat.own b3).alloc _) ⟨w3.heap.size, 0, none⟩ 1 1 [.slice (some ⟨g, 0, none⟩) (L 0) (L 0)] (by rfl) (by rfl) (World.news_of_block (cs := #[.slice (some ⟨g, 0, none⟩) (L 0) (L 0)]) (t := 37) (fr := (0, 0)) (heap_alloc_new w3 _)) (by simp [Value.oneCell']) (by omega) hmx2 (by omega) (by simp; have := b3.size; omega) (w3.heap.size + 1) (by simp) ?_; intro gg c2 w4 hown2 hgrow2 hat hlt'))
      have hrow : RowAt w3 (some ⟨g, 0, none⟩) (L 0) (wordI k Z t) := (hblk.congr (f' := wordI k Z t) (fun c hc => (at_word (by omega) (by omega) (fun j _ => rfl) (fun j hj => (h.2 j hj).2 c)).symm)).row (fun i => wordI_bd _ _ _ _)
      have hp := OwnMat.push hmat b3 hsz hrow ⟨Nat.le_refl _, by unfold maxLen; omega⟩ (fun a ha => by cases ha; exact ⟨by simp only; omega, hgl⟩) hgrow2 hat hown2
      go_roundw
      case rel => exact ⟨t + 1, _, _, _, _, by omega, by go_num, hp.1, same_upd (L := fun _ => L 0) (Z := wordI k Z) hsame, hwr.trans' hp.2⟩
      case measure => simp [intOf]; omega
    · have ek : n = t := by omega
      subst ek
      go_wp2
      go_ret2
      exact ⟨_, _, _, rfl, hmat.congr hsame, hwr⟩

theorem renc_bad (A : Option Addr) (k cap : Nat) (N x : Int) (w : World) (hx : KnWrong (k : Int) N x) (h0 : x ≠ 0) :
    Calls Try.prog 17 #[.slice A k cap, .int .i64 N] w fun e w' => e = .returned (.tuple #[.slice none 0 0, .int .i64 x]) ∧ w' = w := by
  have e1 : (x == 0) = false := by simpa using h0
  have e2 : (x != 0) = true := by simpa using h0
  go_enter Try.func17, Try.ntmps17
  go_wp2_with (go_at_call 29; refine (rkn_any _ _ _).mono ?_; rintro e w' ⟨y, rfl, hy, hw'⟩; subst w'; obtain rfl := hy.unique hx)
  go_ret2
  exact ⟨rfl, rfl⟩

theorem renc_rows (A : Option Addr) (k cap : Nat) (R : Nat → Option Addr) (L C : Nat → Nat) (Z : Nat → Nat → Int) (N x : Int) (w : World) (h : MatAt w A k R L C Z) (hkn : KnWrong (k : Int) N 0) (hx : RowsWrong k L x) (h0 : x ≠ 0) :
    Calls Try.prog 17 #[.slice A k cap, .int .i64 N] w fun e w' => e = .returned (.tuple #[.slice none 0 0, .int .i64 x]) ∧ Bw w w' := by
  have e2 : (x != 0) = true := by simpa using h0
  have hk := kn_ok hkn
  go_enter Try.func17, Try.ntmps17
  go_wp2_with (first
    | (go_at_call 29; refine (rkn_any _ _ _).mono ?_; rintro e w' ⟨y, rfl, hy, hw'⟩; subst w'; obtain rfl := hy.unique hkn)
    | (go_at_call 33; refine (rrows_any A k cap R L C Z (by omega) _ h).mono ?_; rintro e w1 ⟨y, rfl, hy, hw1⟩; obtain rfl := hy.unique hx))
  go_ret2
  exact ⟨rfl, hw1⟩

end Go.Proofs.Ytbhbdhkifkmkbaa

/- The document's own Encode for whatever rows; what it finds wrong with shards and their numbers. -/
namespace Go.Proofs.Ytbhbdhkifkmkbaa
open Go.RowKit

theorem kn_some (k n : Int) : ∃ x, KnWrong k n x := by
  rcases (show (k < 1 ∨ n < k) ∨ (1 ≤ k ∧ k ≤ n ∧ 32 < n) ∨ (1 ≤ k ∧ k ≤ n ∧ n ≤ 32) by omega) with h | h | h
  · exact ⟨1, Or.inl ⟨rfl, h⟩⟩
  · exact ⟨2, Or.inr (Or.inl ⟨rfl, h⟩)⟩
  · exact ⟨0, Or.inr (Or.inr ⟨rfl, h⟩)⟩
theorem rows_some (n : Nat) (L : Nat → Nat) : ∃ x, RowsWrong n L x := by
  by_cases h1 : ∃ r, r < n ∧ 131072 < L r
  · exact ⟨2, Or.inl ⟨rfl, h1⟩⟩
  · have hl : ∀ r, r < n → L r ≤ 131072 := fun r hr => Nat.le_of_not_lt (fun e => h1 ⟨r, hr, e⟩)
    by_cases h2 : ∃ r, r < n ∧ L r ≠ L 0
    · exact ⟨6, Or.inr (Or.inl ⟨rfl, hl, h2⟩)⟩
    · exact ⟨0, Or.inr (Or.inr ⟨rfl, hl, fun r hr => Classical.byContradiction fun e => h2 ⟨r, hr, e⟩⟩)⟩

/-- a matrix in memory, as a value -/
def MatVal3 (w : World) (v : Value) (n : Nat) (L : Nat → Nat) (Z : Nat → Nat → Int) : Prop := ∃ A cap R C, v = .slice A n cap ∧ MatAt w A n R L C Z
theorem val3_none (w : World) (L : Nat → Nat) (Z : Nat → Nat → Int) : MatVal3 w (.slice none 0 0) 0 L Z := ⟨_, _, fun _ => none, fun _ => 0, rfl, Or.inl rfl, fun r hr => by omega⟩
theorem OwnMat.val3 {w : World} {base n : Nat} {v : Value} {R : Nat → Option Addr} {L C : Nat → Nat} {Z : Nat → Nat → Int} (h : OwnMat w base v n R L C Z) : MatVal3 w v n L Z := by
  obtain ⟨A, cap, rfl, hm⟩ := mat_of_own h.own h.row
  exact ⟨A, cap, R, C, rfl, hm⟩

theorem renc_all (A : Option Addr) (k cap : Nat) (R : Nat → Option Addr) (L C : Nat → Nat) (Z : Nat → Nat → Int) (N : Int) (w : World) (h : MatAt w A k R L C Z) :
    Calls Try.prog 17 #[.slice A k cap, .int .i64 N] w fun e w' => ∃ v x kk, e = .returned (.tuple #[v, .int .i64 x]) ∧ MatVal3 w' v kk (fun _ => L 0) (wordI k Z) ∧ EncSays k L N x kk ∧ Bw w w' := by
  obtain ⟨x, hx⟩ := kn_some (k : Int) N
  by_cases h0 : x = 0
  · subst h0
    obtain ⟨y, hy⟩ := rows_some k L
    by_cases h1 : y = 0
    · subst h1
      obtain ⟨n, rfl⟩ := Int.eq_ofNat_of_zero_le (show 0 ≤ N by have := kn_ok hx; omega)
      refine (renc_ok A k n cap R L C Z w h hx hy).mono ?_
      rintro e w' ⟨v, R', C', he, hm, hw⟩
      exact ⟨v, 0, n, he, hm.val3, Or.inr (Or.inr ⟨hx, hy, rfl, rfl⟩), hw⟩
    · refine (renc_rows A k cap R L C Z N y w h hx hy h1).mono ?_
      rintro e w' ⟨he, hw⟩
      exact ⟨_, y, 0, he, val3_none _ _ _, Or.inr (Or.inl ⟨hx, hy, h1, rfl⟩), hw⟩
  · refine (renc_bad A k cap N x w hx h0).mono ?_
    rintro e w' ⟨he, rfl⟩
    exact ⟨_, x, 0, he, val3_none _ _ _, Or.inl ⟨hx, h0, rfl⟩, Bw.refl _⟩

/-- numbers from 0 to n - 1, each once -/
def Good (l : Nat) (n : Int) (f : Nat → Int) : Prop := ∀ i, i < l → (0 ≤ f i ∧ f i < n) ∧ ∀ j, j < i → f j ≠ f i
/-- what is wrong with shards -/
def ShWrong (k n : Int) (m l : Nat) (L : Nat → Nat) (f : Nat → Int) (x : Int) : Prop :=
  (KnWrong k n x ∧ x ≠ 0) ∨ (KnWrong k n 0 ∧ m ≠ l ∧ x = 6) ∨ (KnWrong k n 0 ∧ m = l ∧ ¬ Good l n f ∧ x = 1) ∨ (KnWrong k n 0 ∧ m = l ∧ Good l n f ∧ (l : Int) < k ∧ x = 30) ∨
  (KnWrong k n 0 ∧ m = l ∧ Good l n f ∧ k ≤ (l : Int) ∧ RowsWrong m L x)

theorem ShWrong.unique {k n : Int} {m l : Nat} {L : Nat → Nat} {f : Nat → Int} {x y : Int} (h : ShWrong k n m l L f x) (h' : ShWrong k n m l L f y) : x = y := by
  rcases h with ⟨a, b⟩ | ⟨a, b, c⟩ | ⟨a, b, c, d⟩ | ⟨a, b, c, d, e⟩ | ⟨a, b, c, d, e⟩ <;> rcases h' with ⟨a', b'⟩ | ⟨a', b', c'⟩ | ⟨a', b', c', d'⟩ | ⟨a', b', c', d', e'⟩ | ⟨a', b', c', d', e'⟩ <;>
    first | exact a.unique a' | exact absurd (a.unique a') b | exact absurd (a'.unique a) b' | omega | exact absurd c' c | exact absurd c c' | exact e.unique e' | exact absurd b' b | exact absurd b b'

set_option maxRecDepth 100000 in
theorem rsh_loop (k n : Int) (B A : Option Addr) (l cb ca : Nat) (R : Nat → Option Addr) (L C : Nat → Nat) (Z : Nat → Nat → Int) (f : Nat → Int) (w : World) (hb : MatAt w B l R L C Z) (ha : IntsAt w A l f) (hl : l ≤ 140737488355328) (hkn : KnWrong k n 0) :
    Calls Try.prog 37 #[.int .i64 k, .int .i64 n, .slice B l cb, .slice A l ca] w fun e w' => ∃ x, e = .returned (.int .i64 x) ∧ ShWrong k n l l L f x ∧ Bw w w' := by
  obtain ⟨n1, n2, n3⟩ := kn_ok hkn
  have ell : ((l : Int) != (l : Int)) = false := by simp
  go_enter Try.func37, Try.ntmps37
  go_wp2_with (go_at_call 29; refine (rkn_any _ _ _).mono ?_; rintro e w' ⟨y, rfl, hy, hw'⟩; subst w'; obtain rfl := hy.unique hkn)
  go_loopw [10, 11] (fun i _ wr => ∃ t : Nat, t ≤ l ∧ i = .int .i64 t ∧ Hid (Good t n f) ∧ Bw w wr) (fun i _ _ => l - (intOf i).toNat)
  case atStart => exact ⟨0, Nat.zero_le _, rfl, (show Good 0 n f from fun i hi => by omega), Bw.refl _⟩
  case round =>
    rename World => wo
    obtain ⟨t, ht, rfl, hg, hw⟩ := hrel
    by_cases hlt : t < l
    · obtain ⟨b, o, rfl, hc⟩ := (ha.keep hw).resolve_left (by omega)
      have h1 := hc t hlt
      have t0 : (0 : Int) ≤ (t : Int) := Int.natCast_nonneg _
      have t1 : (t : Int) < (l : Int) := by omega
      rcases (show f t < 0 ∨ (¬ f t < 0 ∧ n ≤ f t) ∨ (¬ f t < 0 ∧ ¬ n ≤ f t) by omega) with h2 | ⟨h2, h3⟩ | ⟨h2, h3⟩
      · clear hc
        go_wp2
        go_ret
        exact ⟨1, rfl, Or.inr (Or.inr (Or.inl ⟨hkn, rfl, fun hh => by have := hh t hlt; omega, rfl⟩)), hw⟩
      · clear hc
        go_wp2
        go_ret
        exact ⟨1, rfl, Or.inr (Or.inr (Or.inl ⟨hkn, rfl, fun hh => by have := hh t hlt; omega, rfl⟩)), hw⟩
      · clear hc
        go_wp2
        go_loopw [11] (fun i wr => ∃ s : Nat, s ≤ t ∧ i = .int .i64 s ∧ Hid (∀ j, j < s → f j ≠ f t) ∧ Bw w wr) (fun i _ => t - (intOf i).toNat)
        case atStart => exact ⟨0, Nat.zero_le _, rfl, (fun j hj => by omega), hw⟩
        case round =>
          obtain ⟨s, hs, rfl, hne, hws⟩ := hrel
          by_cases hst : s < t
          · obtain ⟨b', o', e', hc⟩ := (ha.keep hws).resolve_left (by omega)
            cases e'
            have g1 := hc t hlt
            have g2 := hc s (by omega)
            have s0 : (0 : Int) ≤ (s : Int) := Int.natCast_nonneg _
            have s1 : (s : Int) < (l : Int) := by omega
            clear hc
            by_cases he : f s = f t
            · have he2 : (f s == f t) = true := by simp [he]
              go_wp2
              go_quiet (fail)
              go_wp2
              go_ret
              exact ⟨1, rfl, Or.inr (Or.inr (Or.inl ⟨hkn, rfl, fun hh => (hh t hlt).2 s hst he, rfl⟩)), hws.trans (Bw.drewN _ _)⟩
            · have he2 : (f s == f t) = false := by simpa using he
              go_wp2
              go_quiet (fail)
              go_wp2
              go_roundw
              case rel => exact ⟨s + 1, by omega, by go_num, (fun j hj => by by_cases e : j = s; (subst e; exact he); exact hne j (by omega)), hws.trans (Bw.drewN _ _)⟩
              case measure => simp [intOf]; omega
          · have ek : t = s := by omega
            subst ek
            go_wp2
            go_roundw
            case rel => exact ⟨t + 1, by omega, by go_num, (show Good (t + 1) n f from fun i hi => by by_cases e : i = t; (subst e; exact ⟨by omega, hne.out⟩); exact hg.out i (by omega)), hws⟩
            case measure => simp [intOf]; omega
    · have ek : l = t := by omega
      subst ek
      by_cases hfew : (l : Int) < k
      · go_wp2
        go_ret
        exact ⟨30, rfl, Or.inr (Or.inr (Or.inr (Or.inl ⟨hkn, rfl, hg.out, hfew, rfl⟩))), hw⟩
      · go_wp2_with (go_at_call 33; refine (rrows_any B l cb R L C Z (by omega) _ (hb.keep hw)).mono ?_; rintro e w1 ⟨x, rfl, hx, hw1⟩)
        go_ret
        exact ⟨x, rfl, Or.inr (Or.inr (Or.inr (Or.inr ⟨hkn, rfl, hg.out, by omega, hx⟩))), hw.trans hw1⟩

end Go.Proofs.Ytbhbdhkifkmkbaa

/- The document's own Decode. -/
namespace Go.Proofs.Ytbhbdhkifkmkbaa
open Go.RowKit

attribute [local go_sem ↓] Go.wp_at_zero Go.wp_at_succ

/-- rows that polynomials through other rows have at 0 to k - 1 are the data of those polynomials -/
theorem word_at {k : Nat} {P : Nat → Int} {Z : Nat → Nat → Int} {x c : Nat} (hk : k ≤ 256) (hx : x < 256) (hP : ∀ i, i < k → 0 ≤ P i ∧ P i < 256) (hZ : ∀ j, j < k → 0 ≤ Z j c ∧ Z j c < 256) : wordI k (fun j c => atZ k P Z (j : Int) c) x c = atZ k P Z (x : Int) c := by
  apply fi_inj (wordI_bd _ _ _ _) (atZ_bd _ _ _ _ _)
  rw [wordI_fi, at_fi (by omega) hP hZ]
  have ht := La.thro_thro k (fun j => fi (P j)) ptF ivF ivF_ok (pts_apart hk) (fun j => fm Z j c) (ptF x)
  show _ = La.thro k (fun j => fi (P j)) ivF (fun j => fm Z j c) (ptF x)
  rw [← ht]
  exact thro_congr (fun j hj => at_fi (by omega) hP hZ)

theorem at_own {k : Nat} {P : Nat → Int} {Z : Nat → Nat → Int} {i c : Nat} (hi : i < k) (hP : ∀ i, i < k → 0 ≤ P i ∧ P i < 256) (hd : ∀ a b, a < k → b < k → a ≠ b → P a ≠ P b) (hZ : ∀ j, j < k → 0 ≤ Z j c ∧ Z j c < 256) : atZ k P Z (P i) c = Z i c := by
  apply fi_inj (atZ_bd _ _ _ _ _) (hZ i hi)
  rw [at_fi (hP i hi) hP hZ, La.thro_at k (fun j => fi (P j)) ivF ivF_ok (fun a b ha hb hab e => hd a b ha hb hab (fi_inj (hP a ha) (hP b hb) e)) (fun j => fm Z j c) i hi]
  rfl

theorem good_apart {l : Nat} {n : Int} {f : Nat → Int} (h : Good l n f) {a b : Nat} (ha : a < l) (hb : b < l) (hab : a ≠ b) : f a ≠ f b := by
  rcases Nat.lt_or_gt_of_ne hab with h1 | h1
  · exact (h b hb).2 a h1
  · exact fun e => (h a ha).2 b h1 e.symm

/-- the word of these data has these shards at these numbers -/
def WordOf (k : Nat) (D : Nat → Nat → Int) (l q : Nat) (f : Nat → Int) (Z : Nat → Nat → Int) : Prop := (∀ j, j < k → ∀ c, 0 ≤ D j c ∧ D j c < 256) ∧ ∀ i, i < l → ∀ c, c < q → wordI k D (f i).toNat c = Z i c

/-- any word of the shards goes through the first k of them -/
theorem wordof_at {k l q : Nat} {n : Int} {D Z : Nat → Nat → Int} {f : Nat → Int} (hk : k ≤ 32) (hn : n ≤ 32) (hg : Good l n f) (hkl : k ≤ l) (h : WordOf k D l q f Z) {x c : Nat} (hx : x < 256) (hc : c < q) : atZ k f Z (x : Int) c = wordI k D x c :=
  at_points (p := fun j => (f j).toNat) (by omega) hx (fun j hj => by have := (hg j (by omega)).1; exact ⟨by omega, by omega⟩)
    (fun a b ha hb hab e => good_apart hg (by omega) (by omega) hab (by have h1 := (hg a (by omega)).1; have h2 := (hg b (by omega)).1; omega)) (fun j hj => (h.2 j (by omega) c hc).symm)

/-- what the first k shards give is the word, if all others lie on it -/
theorem wordof_of {k l q : Nat} {n : Int} {Z : Nat → Nat → Int} {f : Nat → Int} (hk : k ≤ 32) (hn : n ≤ 32) (hg : Good l n f) (hkl : k ≤ l) (hZ : ∀ i, i < l → ∀ c, 0 ≤ Z i c ∧ Z i c < 256) (h : ∀ i, k ≤ i → i < l → ∀ c, c < q → atZ k f Z (f i) c = Z i c) : WordOf k (fun j c => atZ k f Z (j : Int) c) l q f Z := by
  have hP : ∀ i, i < k → 0 ≤ f i ∧ f i < 256 := fun i hi => by have := (hg i (by omega)).1; omega
  refine ⟨fun j _ c => atZ_bd _ _ _ _ _, fun i hi c hc => ?_⟩
  have hfi := (hg i hi).1
  rw [word_at (by omega) (by omega) hP (fun j hj => hZ j (by omega) c), Int.toNat_of_nonneg hfi.1]
  by_cases hik : i < k
  · exact at_own hik hP (fun a b ha hb hab => good_apart hg (by omega) (by omega) hab) (fun j hj => hZ j (by omega) c)
  · exact h i (by omega) hi c hc

/-- data of one word are one -/
theorem wordof_unique {k l q : Nat} {n : Int} {D D' Z : Nat → Nat → Int} {f : Nat → Int} (hk : k ≤ 32) (hn : n ≤ 32) (hg : Good l n f) (hkl : k ≤ l) (h : WordOf k D l q f Z) (h' : WordOf k D' l q f Z) : ∀ j, j < k → ∀ c, c < q → D j c = D' j c := by
  intro j hj c hc
  refine word_same (q := fun j => (f j).toNat) (by omega) (fun j hj => h.1 j hj c) (fun j hj => h'.1 j hj c) (fun a b ha hb hab e => good_apart hg (by omega) (by omega) hab (by have h1 := (hg a (by omega)).1; have h2 := (hg b (by omega)).1; omega)) (fun j hj => by have := (hg j (by omega)).1; omega) (fun i hi => ?_) j hj
  rw [h.2 i (by omega) c hc, h'.2 i (by omega) c hc]

set_option maxRecDepth 100000 in
set_option maxHeartbeats 4000000 in
theorem rdec_ok (k : Nat) (n : Int) (B A : Option Addr) (l cb ca : Nat) (R : Nat → Option Addr) (L C : Nat → Nat) (Z : Nat → Nat → Int) (f : Nat → Int) (w : World) (hb : MatAt w B l R L C Z) (ha : IntsAt w A l f) (hca : l ≤ ca) (hcb : l ≤ cb) (hkn : KnWrong (k : Int) n 0) (hg : Good l n f) (hkl : k ≤ l) (hrw : RowsWrong l L 0) (hl : l ≤ 140737488355328) :
    Calls Try.prog 20 #[.int .i64 (k : Int), .int .i64 n, .slice B l cb, .slice A l ca] w fun e w' => Bw w w' ∧
      ((e = .returned (.tuple #[.slice none 0 0, .int .i64 31]) ∧ ¬ ∃ D, WordOf k D l (L 0) f Z) ∨
       ∃ v R' C', e = .returned (.tuple #[v, .int .i64 0]) ∧ OwnMat w' w.heap.size v k R' (fun _ => L 0) C' (fun j c => atZ k f Z (j : Int) c) ∧ WordOf k (fun j c => atZ k f Z (j : Int) c) l (L 0) f Z) := by
  obtain ⟨j0, hj0, hy0, hy1, hy2⟩ := info_parts info_row
  obtain ⟨n1, n2, n3⟩ := kn_ok hkn
  obtain ⟨l1, l2⟩ := rows_ok hrw
  have hq : L 0 ≤ 131072 := l1 0 (by omega)
  have HL : Hid (∀ r, r < l → L r = L 0) := l2
  have HL2 : Hid (∀ r, r < k → L r = L 0) := fun r hr => l2 r (by omega)
  have HP : Hid (∀ i, i < k → 0 ≤ f i ∧ f i < 256) := fun i hi => by have := (hg i (by omega)).1; omega
  have HG : Hid (Good l n f) := hg
  have hsh : ShWrong (k : Int) n l l L f 0 := Or.inr (Or.inr (Or.inr (Or.inr ⟨hkn, rfl, hg, by omega, hrw⟩)))
  clear l1 l2 hg
  obtain ⟨b1, o1, rfl, hc1⟩ := ha.resolve_left (by omega)
  obtain ⟨b2, o2, rfl, hc2⟩ := hb.at (k := 0) (by omega)
  have pk : IntsAt w (some ⟨b1, o1, none⟩) k f := Or.inr ⟨b1, o1, rfl, fun i hi => hc1 i (by omega)⟩
  have rk : MatAt w (some ⟨b2, o2, none⟩) k R L C Z := ⟨Or.inr ⟨b2, o2, rfl, fun r hr => hc2 r (by omega)⟩, fun r hr => hb.2 r (by omega)⟩
  have kca : (k : Int) ≤ (ca : Int) := by omega
  have kcb : (k : Int) ≤ (cb : Int) := by omega
  clear hc1 hc2
  go_enter Try.func20, Try.ntmps20
  go_wp2_with (go_at_call 37; refine (rsh_loop (k : Int) n _ _ l cb ca R L C Z f _ hb ha hl hkn).mono ?_; rintro e w1 ⟨x, rfl, hx, hw1⟩; obtain rfl := hx.unique hsh)
  go_loopw [13] (fun i wr => ∃ t : Nat, k ≤ t ∧ t ≤ l ∧ i = .int .i64 t ∧ Hid (∀ i, k ≤ i → i < t → ∀ c, c < L 0 → atZ k f Z (f i) c = Z i c) ∧ Bw w wr) (fun i _ => l - (intOf i).toNat)
  case atStart => exact ⟨k, Nat.le_refl _, hkl, rfl, (fun i h1 h2 => by omega), hw1⟩
  case round =>
    obtain ⟨t, hkt, htl, rfl, hon, hw⟩ := hrel
    by_cases hlt : t < l
    · obtain ⟨b1', o1', e1, hc1⟩ := (ha.keep hw).resolve_left (by omega)
      cases e1
      obtain ⟨b2', o2', e2, hc2⟩ := (hb.keep hw).at hlt
      cases e2
      have h1 := hc1 t hlt
      have h2 := hc2 t hlt
      rw [HL.out t hlt] at h2
      have hrow := (hb.2 t hlt).keep hw
      rw [HL.out t hlt] at hrow
      have hft := (HG.out t hlt).1
      have t0 : (0 : Int) ≤ (t : Int) := Int.natCast_nonneg _
      have t1 : (t : Int) < (l : Int) := by omega
      have cv0 : (convert 37 9 (.slice (R t) (L 0) (C t))).run Try.prog wr.drew = .ok (.string (str (Z t) (L 0))) wr.drew := conv_row (w := wr.drew) hrow
      have hin := str_inj (f := atZ k f Z (f t)) (g := Z t) (L := L 0) (M := L 0) (fun i => atZ_bd _ _ _ _ _) hrow.2
      clear hc1 hc2
      by_cases he : (str (atZ k f Z (f t)) (L 0)).toList = (str (Z t) (L 0)).toList
      · have he2 : ((str (atZ k f Z (f t)) (L 0)).toList == (str (Z t) (L 0)).toList) = true := by simpa using he
        go_wp2
        go_region_with (go_at_call 34; refine (rat_any _ _ k (L 0) _ _ f R L C Z (f t) _ (pk.keep (hw.drew)) (rk.keep (hw.drew)) HP HL2 (by omega) (by omega) hq (by omega) (by omega)).mono ?_; rintro e w3 ⟨g, rfl, hgg, hblk, hw3⟩; have hb3 : Bw wr w3 := ⟨hw3.os, hw3.tape, hw3.output, hw3.size, hw3.block⟩; have cvx := conv_row (C := L 0) (hblk.row (fun i => atZ_bd _ _ _ _ _)); have k2 := cell_bw hb3 h2; have cv3 := conv_row (C := C t) (hrow.keep hb3))
        all_goals
          go_wp2
          go_roundw
          case rel => exact ⟨t + 1, by omega, by omega, by go_num, (fun i h1 h2 c hc => by by_cases e : i = t; (subst e; exact (hin.1 he).2 c hc); exact hon i h1 (by omega) c hc), hw.trans hb3⟩
          case measure => simp [intOf]; omega
      · have he2 : ((str (atZ k f Z (f t)) (L 0)).toList == (str (Z t) (L 0)).toList) = false := by simpa using he
        go_wp2
        go_region_with (go_at_call 34; refine (rat_any _ _ k (L 0) _ _ f R L C Z (f t) _ (pk.keep (hw.drew)) (rk.keep (hw.drew)) HP HL2 (by omega) (by omega) hq (by omega) (by omega)).mono ?_; rintro e w3 ⟨g, rfl, hgg, hblk, hw3⟩; have hb3 : Bw wr w3 := ⟨hw3.os, hw3.tape, hw3.output, hw3.size, hw3.block⟩; have cvx := conv_row (C := L 0) (hblk.row (fun i => atZ_bd _ _ _ _ _)); have k2 := cell_bw hb3 h2; have cv3 := conv_row (C := C t) (hrow.keep hb3))
        all_goals
          go_wp2
          go_ret2
          refine ⟨hw.trans hb3, Or.inl ⟨rfl, ?_⟩⟩
          rintro ⟨D', hD⟩
          refine he (hin.2 ⟨by first | rfl | trivial, fun c hc => ?_⟩)
          have h5 := wordof_at (by omega) n3 HG.out hkl hD (x := (f t).toNat) (by omega) hc
          rw [Int.toNat_of_nonneg hft.1] at h5
          rw [h5, hD.2 t hlt c hc]
    · have ek : l = t := by omega
      subst ek
      have hword := wordof_of (q := L 0) (by omega) n3 HG.out hkl (fun i hi => (hb.2 i hi).2) hon.out
      go_wp2
      go_loopw [14, 15] (fun v i wr => ∃ (t : Nat) (R' : Nat → Option Addr) (L' C' : Nat → Nat) (Z' : Nat → Nat → Int), t ≤ k ∧ i = .int .i64 t ∧ OwnMat wr w.heap.size v t R' L' C' Z' ∧ Hid (∀ r, r < t → L' r = L 0 ∧ Z' r = fun c => atZ k f Z (r : Int) c) ∧ Bw w wr) (fun _ i _ => k - (intOf i).toNat)
      case atStart => exact ⟨0, fun _ => none, fun _ => 0, fun _ => 0, Z, Nat.zero_le _, rfl, OwnMat.nil _ _ _ _ _ _, (fun r hr => by omega), hw⟩
      case round =>
        obtain ⟨t, R', L', C', Z', ht, rfl, hmat, hsame, hwr⟩ := hrel
        by_cases hlt : t < k
        · have hsz := hwr.size
          have hmx2 : t + 1 ≤ maxLen := by unfold maxLen; omega
          go_wp2_with (first
            | (go_at_call 34; refine (rat_any _ _ k (L 0) _ _ f R L C Z (t : Int) _ (pk.keep hwr) (rk.keep hwr) HP HL2 (by omega) (by omega) hq (by omega) (by omega)).mono ?_; rintro e w3 ⟨g, rfl, hgg, hblk, b3⟩; have hs2 := b3.size; have hgl : g < w3.heap.size := (by obtain ⟨cur, hcur, _⟩ := hblk; exact (Array.getElem?_eq_some_iff.1 hcur).1))
            | (at_builtin; refine wpList_append_lies _ (by rfl) (.tmp 56) (.tmp 61) _ (by rfl) w.heap.size 37 j0 _ 1 24 Try.underlying22 hj0 hy0 hy1 hy2 rfl (by omega) _ _ _ (by rfl) ((own_keep hmat.own b3).alloc _) ⟨w3.heap.size, 0, none⟩ 1 1 [.slice (some ⟨g, 0, none⟩) (L 0) (L 0)] (by rfl) (by rfl) (World.news_of_block (cs := #[.slice (some ⟨g, 0, none⟩) (L 0) (L 0)]) (t := 37) (fr := (0, 0)) (heap_alloc_new w3 _)) (by simp [Value.oneCell']) (by omega) hmx2 (by omega) (by simp; have := b3.size; omega) (w3.heap.size + 1) (by simp) ?_; intro gg c2 w4 hown2 hgrow2 hat hlt'))
          have hrow : RowAt w3 (some ⟨g, 0, none⟩) (L 0) (atZ k f Z (t : Int)) := hblk.row (fun i => atZ_bd _ _ _ _ _)
          have hp := OwnMat.push hmat b3 hsz hrow ⟨Nat.le_refl _, by unfold maxLen; omega⟩ (fun a ha => by cases ha; exact ⟨hgg, hgl⟩) hgrow2 hat hown2
          go_roundw
          case rel => exact ⟨t + 1, _, _, _, _, by omega, by go_num, hp.1, same_upd (L := fun _ => L 0) (Z := fun j c => atZ k f Z (j : Int) c) hsame, hwr.trans' hp.2⟩
          case measure => simp [intOf]; omega
        · have ek : k = t := by omega
          subst ek
          go_wp2
          go_ret2
          exact ⟨hwr, Or.inr ⟨_, _, _, rfl, hmat.congr hsame, hword⟩⟩

end Go.Proofs.Ytbhbdhkifkmkbaa

/- The document's own Decode and Rebuild for whatever shards. -/
namespace Go.Proofs.Ytbhbdhkifkmkbaa
open Go.RowKit

theorem rsh_bad (k n : Int) (B A : Option Addr) (m l cb ca : Nat) (x : Int) (w : World) (hx : KnWrong k n x) (h0 : x ≠ 0) :
    Calls Try.prog 37 #[.int .i64 k, .int .i64 n, .slice B m cb, .slice A l ca] w fun e w' => e = .returned (.int .i64 x) ∧ w' = w := by
  have e2 : (x != 0) = true := by simpa using h0
  go_enter Try.func37, Try.ntmps37
  go_wp2_with (go_at_call 29; refine (rkn_any _ _ _).mono ?_; rintro e w' ⟨y, rfl, hy, hw'⟩; subst w'; obtain rfl := hy.unique hx)
  go_ret
  exact ⟨rfl, rfl⟩

theorem rsh_shape (k n : Int) (B A : Option Addr) (m l cb ca : Nat) (w : World) (hx : KnWrong k n 0) (h0 : m ≠ l) :
    Calls Try.prog 37 #[.int .i64 k, .int .i64 n, .slice B m cb, .slice A l ca] w fun e w' => e = .returned (.int .i64 6) ∧ w' = w := by
  have e2 : ((m : Int) != (l : Int)) = true := by simp; omega
  go_enter Try.func37, Try.ntmps37
  go_wp2_with (go_at_call 29; refine (rkn_any _ _ _).mono ?_; rintro e w' ⟨y, rfl, hy, hw'⟩; subst w'; obtain rfl := hy.unique hx)
  go_ret
  exact ⟨rfl, rfl⟩

theorem rsh_all (k n : Int) (B A : Option Addr) (m l cb ca : Nat) (R : Nat → Option Addr) (L C : Nat → Nat) (Z : Nat → Nat → Int) (f : Nat → Int) (w : World) (hb : MatAt w B m R L C Z) (ha : IntsAt w A l f) (hl : l ≤ 140737488355328) :
    Calls Try.prog 37 #[.int .i64 k, .int .i64 n, .slice B m cb, .slice A l ca] w fun e w' => ∃ x, e = .returned (.int .i64 x) ∧ ShWrong k n m l L f x ∧ Bw w w' := by
  obtain ⟨x, hx⟩ := kn_some k n
  by_cases h0 : x = 0
  · subst h0
    by_cases h1 : m = l
    · subst h1
      exact rsh_loop k n B A m cb ca R L C Z f w hb ha hl hx
    · refine (rsh_shape k n B A m l cb ca w hx h1).mono ?_
      rintro e w' ⟨he, rfl⟩
      exact ⟨6, he, Or.inr (Or.inl ⟨hx, h1, rfl⟩), Bw.refl _⟩
  · refine (rsh_bad k n B A m l cb ca x w hx h0).mono ?_
    rintro e w' ⟨he, rfl⟩
    exact ⟨x, he, Or.inl ⟨hx, h0⟩, Bw.refl _⟩

theorem sh_some (k n : Int) (m l : Nat) (L : Nat → Nat) (f : Nat → Int) : ∃ x, ShWrong k n m l L f x := by
  obtain ⟨x, hx⟩ := kn_some k n
  by_cases h0 : x = 0
  · subst h0
    by_cases h1 : m = l
    · by_cases h2 : Good l n f
      · by_cases h3 : (l : Int) < k
        · exact ⟨30, Or.inr (Or.inr (Or.inr (Or.inl ⟨hx, h1, h2, h3, rfl⟩)))⟩
        · obtain ⟨y, hy⟩ := rows_some m L
          exact ⟨y, Or.inr (Or.inr (Or.inr (Or.inr ⟨hx, h1, h2, by omega, hy⟩)))⟩
      · exact ⟨1, Or.inr (Or.inr (Or.inl ⟨hx, h1, h2, rfl⟩))⟩
    · exact ⟨6, Or.inr (Or.inl ⟨hx, h1, rfl⟩)⟩
  · exact ⟨x, Or.inl ⟨hx, h0⟩⟩

theorem sh_ok {k n : Int} {m l : Nat} {L : Nat → Nat} {f : Nat → Int} (h : ShWrong k n m l L f 0) : KnWrong k n 0 ∧ m = l ∧ Good l n f ∧ k ≤ (l : Int) ∧ RowsWrong m L 0 := by
  rcases h with ⟨_, h⟩ | ⟨_, _, h⟩ | ⟨_, _, _, h⟩ | ⟨_, _, _, _, h⟩ | h
  · exact absurd rfl h
  · cases h
  · cases h
  · cases h
  · exact h

/-- what Decode says: its errors, its shape, and whose word it is -/
def DecSays (k n : Int) (m l : Nat) (L : Nat → Nat) (f : Nat → Int) (Z : Nat → Nat → Int) (x : Int) (kk : Nat) (D : Nat → Nat → Int) : Prop :=
  (ShWrong k n m l L f x ∧ x ≠ 0 ∧ kk = 0) ∨ (ShWrong k n m l L f 0 ∧ x = 31 ∧ kk = 0 ∧ ¬ ∃ D, WordOf k.toNat D l (L 0) f Z) ∨ (ShWrong k n m l L f 0 ∧ x = 0 ∧ kk = k.toNat ∧ WordOf k.toNat D l (L 0) f Z)

theorem decsays_unique {k n : Int} {m l : Nat} {L : Nat → Nat} {f : Nat → Int} {Z : Nat → Nat → Int} {x x' : Int} {kk kk' : Nat} {D D' : Nat → Nat → Int} (h : DecSays k n m l L f Z x kk D) (h' : DecSays k n m l L f Z x' kk' D') :
    x = x' ∧ kk = kk' ∧ ∀ j, j < kk → ∀ c, c < L 0 → D j c = D' j c := by
  rcases h with ⟨a, b, c⟩ | ⟨a, b, c, d⟩ | ⟨a, b, c, d⟩ <;> rcases h' with ⟨a', b', c'⟩ | ⟨a', b', c', d'⟩ | ⟨a', b', c', d'⟩
  · exact ⟨a.unique a', by omega, fun j hj => by omega⟩
  · exact absurd (a.unique a') b
  · exact absurd (a.unique a') b
  · exact absurd (a'.unique a) b'
  · exact ⟨by omega, by omega, fun j hj => by omega⟩
  · exact absurd ⟨_, d'⟩ d
  · exact absurd (a'.unique a) b'
  · exact absurd ⟨_, d⟩ d'
  · obtain ⟨h1, h2, h3, h4, h5⟩ := sh_ok a
    have hk := kn_ok h1
    refine ⟨by omega, by omega, fun j hj c hc => ?_⟩
    exact wordof_unique (by omega) hk.2.2 h3 (by omega) d d' j (by omega) c hc

theorem rdec_bad (k n : Int) (B A : Option Addr) (m l cb ca : Nat) (R : Nat → Option Addr) (L C : Nat → Nat) (Z : Nat → Nat → Int) (f : Nat → Int) (w : World) (hb : MatAt w B m R L C Z) (ha : IntsAt w A l f) (hl : l ≤ 140737488355328) (x : Int) (hx : ShWrong k n m l L f x) (h0 : x ≠ 0) :
    Calls Try.prog 20 #[.int .i64 k, .int .i64 n, .slice B m cb, .slice A l ca] w fun e w' => e = .returned (.tuple #[.slice none 0 0, .int .i64 x]) ∧ Bw w w' := by
  have e2 : (x != 0) = true := by simpa using h0
  go_enter Try.func20, Try.ntmps20
  go_wp2_with (go_at_call 37; refine (rsh_all k n B A m l cb ca R L C Z f _ hb ha hl).mono ?_; rintro e w1 ⟨y, rfl, hy, hw1⟩; obtain rfl := hy.unique hx)
  go_ret2
  exact ⟨rfl, hw1⟩

theorem rdec_all (k n : Int) (B A : Option Addr) (m l cb ca : Nat) (R : Nat → Option Addr) (L C : Nat → Nat) (Z : Nat → Nat → Int) (f : Nat → Int) (w : World) (hb : MatAt w B m R L C Z) (ha : IntsAt w A l f) (hca : l ≤ ca) (hcb : m ≤ cb) (hl : l ≤ 140737488355328) :
    Calls Try.prog 20 #[.int .i64 k, .int .i64 n, .slice B m cb, .slice A l ca] w fun e w' => ∃ v x kk D, e = .returned (.tuple #[v, .int .i64 x]) ∧ MatVal3 w' v kk (fun _ => L 0) D ∧ DecSays k n m l L f Z x kk D ∧ Bw w w' := by
  obtain ⟨x, hx⟩ := sh_some k n m l L f
  by_cases h0 : x = 0
  · subst h0
    obtain ⟨h1, rfl, h3, h4, h5⟩ := sh_ok hx
    obtain ⟨k', rfl⟩ := Int.eq_ofNat_of_zero_le (show 0 ≤ k by have := kn_ok h1; omega)
    refine (rdec_ok k' n B A m cb ca R L C Z f w hb ha hca hcb h1 h3 (by omega) h5 hl).mono ?_
    rintro e w' ⟨hw, ⟨he, hno⟩ | ⟨v, R', C', he, hm, hword⟩⟩
    · exact ⟨_, 31, 0, Z, he, val3_none _ _ _, Or.inr (Or.inl ⟨hx, rfl, rfl, hno⟩), hw⟩
    · exact ⟨v, 0, k', _, he, hm.val3, Or.inr (Or.inr ⟨hx, rfl, rfl, hword⟩), hw⟩
  · refine (rdec_bad k n B A m l cb ca R L C Z f w hb ha hl x hx h0).mono ?_
    rintro e w' ⟨he, hw⟩
    exact ⟨_, x, 0, Z, he, val3_none _ _ _, Or.inl ⟨hx, h0, rfl⟩, hw⟩

end Go.Proofs.Ytbhbdhkifkmkbaa

/- Contracts of the program's own calls that multiply by one number. -/
namespace Go.Proofs.Ytbhbdhkifkmkbaa
open Go.RowKit

/-- the blocks of S alone may have turned, and new ones may have come -/
structure Bx (S : Nat → Prop) (w w' : World) : Prop where
  os : w'.os = w.os
  tape : w'.tape = w.tape
  output : w'.output = w.output
  size : w.heap.size ≤ w'.heap.size
  block : ∀ b, b < w.heap.size → ¬ S b → w'.heap[b]? = w.heap[b]?

theorem Bx.of_bw {S : Nat → Prop} {w w' : World} (h : Bw w w') : Bx S w w' := ⟨h.os, h.tape, h.output, h.size, fun b hb _ => h.block b hb⟩
theorem Bx.refl (S : Nat → Prop) (w : World) : Bx S w w := ⟨rfl, rfl, rfl, Nat.le_refl _, fun _ _ _ => rfl⟩
theorem Bx.trans {S : Nat → Prop} {a b c : World} (h : Bx S a b) (k : Bx S b c) : Bx S a c :=
  ⟨k.os.trans h.os, k.tape.trans h.tape, k.output.trans h.output, Nat.le_trans h.size k.size, fun x hx hs => (k.block x (Nat.lt_of_lt_of_le hx h.size) hs).trans (h.block x hx hs)⟩
theorem Bx.more {S T : Nat → Prop} {w w' : World} (h : Bx S w w') (k : ∀ b, S b → T b) : Bx T w w' := ⟨h.os, h.tape, h.output, h.size, fun b hb hs => h.block b hb (fun e => hs (k b e))⟩
/-- what turned alone lies from lo on: what was below lo stays -/
theorem Bx.below {S : Nat → Prop} {lo : Nat} {w w' : World} (h : Bx S w w') (hlo : lo ≤ w.heap.size) (k : ∀ b, S b → lo ≤ b) : Below lo w w' :=
  ⟨h.os, h.tape, h.output, h.size, fun b hb => h.block b (Nat.lt_of_lt_of_le hb hlo) (fun e => by have := k b e; omega)⟩
theorem Bx.put {S : Nat → Prop} {w w' : World} (h : Bx S w w') {g j : Nat} {v : Value} (hg : S g) : Bx S w (w'.setCell ⟨g, j, none⟩ v) :=
  ⟨h.os, h.tape, h.output, by have := h.size; simp only [World.size_setCell]; exact this, fun b hb hs => (heap_setCell_other w' ⟨g, j, none⟩ b v (fun e => hs (by simp only at e; rw [e]; exact hg))).trans (h.block b hb hs)⟩
theorem Bx.drew {S : Nat → Prop} {w w' : World} (h : Bx S w w') : Bx S w w'.drew := ⟨h.os, h.tape, h.output, h.size, h.block⟩

theorem RowAt.keepx {S : Nat → Prop} {w w' : World} {A : Option Addr} {L : Nat} {f : Nat → Int} (h : RowAt w A L f) (k : Bx S w w') (hA : ∀ b o, A = some ⟨b, o, none⟩ → 0 < L → ¬ S b) : RowAt w' A L f := by
  refine ⟨?_, h.2⟩
  rcases h.1 with h0 | ⟨b, off, e, hc⟩
  · exact Or.inl h0
  · by_cases h0 : L = 0
    · exact Or.inl h0
    · refine Or.inr ⟨b, off, e, fun i hi => ?_⟩
      have h1 := hc i hi
      rw [World.cell?_of_block (w := w) (k.block b (block_lt_of_cell h1) (hA b off e (by omega)))]
      exact h1

/-- a call that multiplies by c -/
def FnMul (w : World) (f : Value) (g : Nat) (c : Int) : Prop :=
  (f = .func (.func 59) #[] #[.pointer (some ⟨g, 0, none⟩)] ∧ w.heap[g]? = some (.cells #[.int .u8 c] 5 (0, 0))) ∨
  (f = .func (.func 60) #[] #[.pointer (some ⟨g, 0, none⟩)] ∧ ∃ cur, w.heap[g]? = some (.cells cur 79 (0, 0)) ∧ ∀ b : Nat, b < 256 → cur[b]? = some (.int .u8 (mulI c (b : Int))))

theorem fn1_any (c b : Int) (g : Nat) (c0 : 0 ≤ c) (c1 : c < 256) (b0 : 0 ≤ b) (b1 : b < 256) (w : World) (h : w.heap[g]? = some (.cells #[.int .u8 c] 5 (0, 0))) :
    Calls Try.prog 59 #[.int .u8 b, .pointer (some ⟨g, 0, none⟩)] w fun e w' => e = .returned (.int .u8 (mulI c b)) ∧ w' = w := by
  have hc := cell_of_one h
  go_enter Try.func59, Try.ntmps59
  go_wp2_with (go_at_call 38; refine (mul_any _ _ (by omega) (by omega) (by omega) (by omega) _).mono ?_; rintro e w' ⟨rfl, rfl⟩)
  go_ret
  exact ⟨rfl, rfl⟩

theorem fn2_any (c b : Int) (g : Nat) (b0 : 0 ≤ b) (b1 : b < 256) (w : World) (cur : Array Value) (h : w.heap[g]? = some (.cells cur 79 (0, 0))) (hc : ∀ b : Nat, b < 256 → cur[b]? = some (.int .u8 (mulI c (b : Int)))) :
    Calls Try.prog 60 #[.int .u8 b, .pointer (some ⟨g, 0, none⟩)] w fun e w' => e = .returned (.int .u8 (mulI c b)) ∧ w' = w := by
  obtain ⟨k, rfl⟩ := Int.eq_ofNat_of_zero_le b0
  have hx : w.cell? ⟨g, k, none⟩ = some (.int .u8 (mulI c (k : Int))) := (cell_of_row w g k cur _ _ h).trans (hc k (by omega))
  go_enter Try.func60, Try.ntmps60
  go_wp2
  go_ret
  exact ⟨rfl, rfl⟩

theorem fnz (w : World) : (zeroValue 79).run Try.prog w = .ok (.agg (Array.replicate 256 (.int .u8 0))) w := by kernel_rfl

set_option maxRecDepth 100000 in
theorem times_any (c n : Int) (c0 : 0 ≤ c) (c1 : c < 256) (w : World) :
    Calls Try.prog 54 #[.int .u8 c, .int .i64 n] w fun e w' => ∃ f g, e = .returned f ∧ FnMul w' f g c ∧ w.heap.size ≤ g ∧ Bw w w' := by
  have hz := fnz
  by_cases hn : n ≤ 256
  · go_enter Try.func54, Try.ntmps54
    go_wp2
    go_ret
    exact ⟨_, _, rfl, Or.inl ⟨rfl, heap_alloc_new _ _⟩, Nat.le_refl _, (Below.refl _ _).alloc (Nat.le_refl _) _⟩
  · go_enter Try.func54, Try.ntmps54
    go_wp2
    go_loopw [10] (fun i wr => ∃ k : Nat, k ≤ 256 ∧ i = .int .i64 k ∧ wr.heap[w.heap.size]? = some (.cells #[.int .u8 c] 5 (0, 0)) ∧ (∃ cur, wr.heap[w.heap.size + 1]? = some (.cells cur 79 (0, 0)) ∧ cur.size = 256 ∧ ∀ b : Nat, b < k → cur[b]? = some (.int .u8 (mulI c (b : Int)))) ∧ Bw w wr) (fun i _ => 256 - (intOf i).toNat)
    case atStart => exact ⟨0, Nat.zero_le _, rfl, heap_alloc2_old _ _ _, ⟨_, heap_alloc2_new _ _ _, by simp, fun b hb => by omega⟩, ((Below.refl _ _).alloc (Nat.le_refl _) _).alloc (by rw [size_alloc]; omega) _⟩
    case round =>
      obtain ⟨k, hk, rfl, hc, ⟨cur, hcur, hs, hv⟩, hb⟩ := hrel
      have cc := cell_of_one hc
      by_cases hlt : k < 256
      · obtain ⟨v1, hv1⟩ : ∃ v, cur[k]? = some v := ⟨_, Array.getElem?_eq_getElem (by omega)⟩
        have hx : wr.cell? ⟨w.heap.size + 1, k, none⟩ = some v1 := (cell_of_row wr (w.heap.size + 1) k cur _ _ hcur).trans hv1
        have hf : wr.frozen? ⟨w.heap.size + 1, k, none⟩ = false := frozen_of_row wr (w.heap.size + 1) k cur _ hcur
        go_wp2_with (go_at_call 38; refine (mul_any _ _ (by omega) (by omega) (by omega) (by omega) _).mono ?_; rintro e w' ⟨rfl, hw'⟩; subst w')
        go_roundw
        case rel =>
          refine ⟨k + 1, by omega, by go_num, (heap_setCell_other wr _ _ _ (by simp only; omega)).trans hc, ⟨_, heap_setCell_same wr _ k cur _ _ hcur, by simpa using hs, fun b hb' => ?_⟩, Bw.put hb (by omega) _ _⟩
          by_cases e : b = k
          · subst e; rw [Array.getElem?_setIfInBounds_self_of_lt (by omega)]
          · rw [Array.getElem?_setIfInBounds_ne (Ne.symm e), hv b (by omega)]
        case measure => simp [intOf]; omega
      · have e8 : k = 256 := by omega
        subst e8
        go_wp2
        go_ret
        exact ⟨_, _, rfl, Or.inr ⟨rfl, cur, hcur, hv⟩, by omega, hb⟩

end Go.Proofs.Ytbhbdhkifkmkbaa

/- Contracts of the program's own add and scale: a row of a work space turned in its place. -/
namespace Go.Proofs.Ytbhbdhkifkmkbaa
open Go.RowKit

attribute [local go_sem ↓] Go.wp_at_zero Go.wp_at_succ

/-- a block with a row's multiple added at o -/
def addF (F : Nat → Int) (o n : Nat) (c : Int) (f : Nat → Int) (k : Nat) : Int := if o ≤ k ∧ k < o + n then addI (F k) (mulI c (f (k - o))) else F k
/-- a block with a row multiplied at o -/
def sclF (F : Nat → Int) (o n : Nat) (c : Int) (k : Nat) : Int := if o ≤ k ∧ k < o + n then mulI c (F k) else F k

theorem mulI_zero (x : Int) (x0 : 0 ≤ x) (x1 : x < 256) : mulI 0 x = 0 := by
  apply fi_inj (mulI_bd 0 x (by omega)) (by omega)
  rw [fi_mul (by omega) ⟨x0, x1⟩, fi_zero, La.zero_mul]
theorem addI_zero (x : Int) (x0 : 0 ≤ x) (x1 : x < 256) : addI x 0 = x := by
  apply fi_inj (addI_bd x 0 x1 (by omega)) ⟨x0, x1⟩
  rw [fi_add ⟨x0, x1⟩ (by omega), fi_zero, La.add_zero]

theorem FnMul.keepx {S : Nat → Prop} {w w' : World} {f : Value} {g : Nat} {c : Int} (h : FnMul w f g c) (k : Bx S w w') (hg : ¬ S g) : FnMul w' f g c := by
  rcases h with ⟨h1, h2⟩ | ⟨h1, cur, h2, h3⟩
  · exact Or.inl ⟨h1, (k.block g (Array.getElem?_eq_some_iff.1 h2).1 hg).trans h2⟩
  · exact Or.inr ⟨h1, cur, (k.block g (Array.getElem?_eq_some_iff.1 h2).1 hg).trans h2, h3⟩

theorem cell_other' {w : World} {a b : Addr} {v : Value} (h : a ≠ b) : (w.setCell a v).cell? b = w.cell? b := by
  first | exact World.cell?_setCell_other h | exact World.cell?_setCell_other w h | exact World.cell?_setCell_other w a v h | exact World.cell?_setCell_other w a b v h | exact World.cell?_setCell_other _ _ _ _ h

theorem RowAt.put {w : World} {A : Option Addr} {n : Nat} {f : Nat → Int} (h : RowAt w A n f) {g o k : Nat} {v : Value} (hk : k < n) (hd : ∀ a, A = some a → a.block ≠ g ∨ a.off + n ≤ o ∨ o + n ≤ a.off) : RowAt (w.setCell ⟨g, o + k, none⟩ v) A n f := by
  refine ⟨?_, h.2⟩
  rcases h.1 with h0 | ⟨b, off, e, hc⟩
  · exact Or.inl h0
  · refine Or.inr ⟨b, off, e, fun i hi => ?_⟩
    have h1 := hd _ e
    simp only at h1
    exact (cell_other' (fun e => by simp only [Addr.mk.injEq] at e; omega)).trans (hc i hi)

theorem RowAt.drew {w : World} {A : Option Addr} {n : Nat} {f : Nat → Int} (h : RowAt w A n f) : RowAt w.drew A n f := h
theorem BlockIs.drew {w : World} {g n : Nat} {f : Nat → Int} (h : BlockIs w g n f) : BlockIs w.drew g n f := h
theorem FnMul.drew {w : World} {f : Value} {g : Nat} {c : Int} (h : FnMul w f g c) : FnMul w.drew f g c := h

theorem addF_bd {F : Nat → Int} {o n : Nat} {c : Int} {f : Nat → Int} (hF : ∀ i, 0 ≤ F i ∧ F i < 256) (c1 : c < 256) (k : Nat) : 0 ≤ addF F o n c f k ∧ addF F o n c f k < 256 := by
  unfold addF; split
  · exact addI_bd _ _ (hF k).2 (mulI_bd _ _ c1).2
  · exact hF k
theorem sclF_bd {F : Nat → Int} {o n : Nat} {c : Int} (hF : ∀ i, 0 ≤ F i ∧ F i < 256) (c1 : c < 256) (k : Nat) : 0 ≤ sclF F o n c k ∧ sclF F o n c k < 256 := by
  unfold sclF; split
  · exact mulI_bd _ _ c1
  · exact hF k

set_option maxRecDepth 100000 in
theorem add_any' (g o n N cap cb : Nat) (F f : Nat → Int) (B : Option Addr) (c : Int) (c0 : 0 ≤ c) (c1 : c < 256) (w : World) (hb : BlockIs w g N F) (hN : o + n ≤ N) (hn : n ≤ 1048576) (hF : ∀ i, 0 ≤ F i ∧ F i < 256)
    (hB : RowAt w B n f) (hd : ∀ a, B = some a → a.block ≠ g ∨ a.off + n ≤ o ∨ o + n ≤ a.off) :
    Calls Try.prog 43 #[.slice (some ⟨g, o, none⟩) n cap, .slice B n cb, .int .u8 c] w fun e w' => e = .returned (.tuple #[]) ∧ BlockIs w' g N (addF F o n c f) ∧ Bx (· = g) w w' := by
  by_cases hc : c = 0
  · subst hc
    go_enter Try.func43, Try.ntmps43
    go_wp2
    refine bodyPost_ret (results_none rfl _ _ _) rfl ?_
    refine ⟨rfl, hb.congr (fun k hk => ?_), Bx.refl _ _⟩
    unfold addF; split
    · rw [mulI_zero _ (hB.2 _).1 (hB.2 _).2, addI_zero _ (hF k).1 (hF k).2]
    · rfl
  · have hcb : (c == 0) = false := by simpa using hc
    go_enter Try.func43, Try.ntmps43
    go_wp2_with (go_at_call 54; refine (times_any _ _ (by omega) (by omega) _).mono ?_; rintro e w1 ⟨fv, gf, rfl, hfn, hgf, hb1⟩)
    go_loopw [17] (fun i wr => ∃ k : Nat, k ≤ n ∧ i = .int .i64 k ∧ BlockIs wr g N (addF F o k c f) ∧ RowAt wr B n f ∧ FnMul wr fv gf c ∧ Bx (· = g) w wr) (fun i _ => n - (intOf i).toNat)
    case atStart => exact ⟨0, Nat.zero_le _, rfl, (hb.keep hb1).congr (fun k hk => by unfold addF; rw [if_neg (by omega)]), hB.keep hb1, hfn, Bx.of_bw hb1⟩
    case round =>
      obtain ⟨k, hk, rfl, hbk, hBk, hfk, hw⟩ := hrel
      have hgl : g < w.heap.size := by obtain ⟨cur, hcur, _⟩ := hb; exact (Array.getElem?_eq_some_iff.1 hcur).1
      by_cases hlt : k < n
      · obtain ⟨b2, o2, e2, hc2⟩ := hBk.at hlt
        have h2 := hc2 k hlt
        have z2 := hB.2 k
        obtain ⟨h3, h4⟩ := hbk.cell (c := o + k) (by omega)
        have z3 := hF (o + k)
        have e3 : addF F o k c f (o + k) = F (o + k) := by unfold addF; rw [if_neg (by omega)]
        rw [e3] at h3
        have m3 := mulI_bd c (f k) c1
        have k0 : (0 : Int) ≤ (k : Int) := Int.natCast_nonneg _
        have k1 : (k : Int) < (n : Int) := by omega
        have hset : BlockIs (wr.setCell ⟨g, o + k, none⟩ (.int .u8 (addI (F (o + k)) (mulI c (f k))))) g N (addF F o (k + 1) c f) := hbk.set (by omega) (by unfold addF; rw [if_pos (by omega), Nat.add_sub_cancel_left]) (fun j hj hne => by unfold addF; (by_cases h : o ≤ j ∧ j < o + k); rw [if_pos h, if_pos (by omega)]; rw [if_neg h, if_neg (by omega)])
        have hrow : RowAt (wr.setCell ⟨g, o + k, none⟩ (.int .u8 (addI (F (o + k)) (mulI c (f k))))) B n f := hBk.put hlt hd
        have hwx : Bx (· = g) w (wr.setCell ⟨g, o + k, none⟩ (.int .u8 (addI (F (o + k)) (mulI c (f k))))) := hw.put rfl
        have hfx : FnMul (wr.setCell ⟨g, o + k, none⟩ (.int .u8 (addI (F (o + k)) (mulI c (f k))))) fv gf c := hfk.keepx ((Bx.refl (· = g) wr).put (j := o + k) rfl) (by omega)
        subst e2
        clear hc2 e3 hbk hBk hw
        rcases hfk with ⟨rfl, hcell⟩ | ⟨rfl, cur, hcur, hv⟩
        · go_wp2
          go_region_with (first | (go_at_call 59; refine (fn1_any c _ _ (by omega) (by omega) (by omega) (by omega) _ ?_).mono ?_; exact hcell; rintro e w' ⟨rfl, hw'⟩; subst w') | (go_at_call 51; refine (add_any _ _ (by omega) (by omega) (by omega) (by omega) _).mono ?_; rintro e w' ⟨rfl, hw'⟩; subst w'))
          all_goals
            go_wp2
            go_roundw
            case rel => exact ⟨k + 1, by omega, by go_num, hset.drew, hrow.drew, hfx.drew, hwx.drew⟩
            case measure => simp [intOf]; omega
        · go_wp2
          go_region_with (first | (go_at_call 60; refine (fn2_any c _ _ (by omega) (by omega) _ cur ?_ hv).mono ?_; exact hcur; rintro e w' ⟨rfl, hw'⟩; subst w') | (go_at_call 51; refine (add_any _ _ (by omega) (by omega) (by omega) (by omega) _).mono ?_; rintro e w' ⟨rfl, hw'⟩; subst w'))
          all_goals
            go_wp2
            go_roundw
            case rel => exact ⟨k + 1, by omega, by go_num, hset.drew, hrow.drew, hfx.drew, hwx.drew⟩
            case measure => simp [intOf]; omega
      · have ek : n = k := by omega
        subst ek
        go_wp2
        go_end0
        exact ⟨rfl, hbk, hw⟩

/-- the row's numbers, multiplied -/
theorem sclF_at {F : Nat → Int} {o k : Nat} {c : Int} : sclF F o (k + 1) c (o + k) = mulI c (F (o + k)) := by unfold sclF; rw [if_pos (by omega)]
theorem sclF_ne {F : Nat → Int} {o k j : Nat} {c : Int} (h : j ≠ o + k) : sclF F o (k + 1) c j = sclF F o k c j := by
  unfold sclF
  by_cases h' : o ≤ j ∧ j < o + k
  · rw [if_pos h', if_pos (by omega)]
  · rw [if_neg h', if_neg (by omega)]

set_option maxRecDepth 100000 in
theorem scale_any (g o n N cap : Nat) (F : Nat → Int) (c : Int) (c0 : 0 ≤ c) (c1 : c < 256) (w : World) (hb : BlockIs w g N F) (hN : o + n ≤ N) (hn : n ≤ 1048576) (hF : ∀ i, 0 ≤ F i ∧ F i < 256) :
    Calls Try.prog 53 #[.slice (some ⟨g, o, none⟩) n cap, .int .u8 c] w fun e w' => e = .returned (.tuple #[]) ∧ BlockIs w' g N (sclF F o n (invR c)) ∧ Bx (· = g) w w' := by
  have hi := invR_bd c
  go_enter Try.func53, Try.ntmps53
  go_wp2_with (first | (go_at_call 58; refine (inv_all _ (by omega) (by omega) _).mono ?_; rintro e w1 ⟨rfl, hw1⟩) | (go_at_call 54; refine (times_any _ _ (by omega) (by omega) _).mono ?_; rintro e w2 ⟨fv, gf, rfl, hfn, hgf, hb2⟩))
  have hgl : g < w.heap.size := by obtain ⟨cur, hcur, _⟩ := hb; exact (Array.getElem?_eq_some_iff.1 hcur).1
  have hb1 : Bw w w1 := hw1.1
  have hs1 := hb1.size
  go_loopw [20] (fun i wr => ∃ k : Nat, k ≤ n ∧ i = .int .i64 k ∧ BlockIs wr g N (sclF F o k (invR c)) ∧ FnMul wr fv gf (invR c) ∧ Bx (· = g) w wr) (fun i _ => n - (intOf i).toNat)
  case atStart => exact ⟨0, Nat.zero_le _, rfl, ((hb.keep hb1).keep hb2).congr (fun k hk => by unfold sclF; rw [if_neg (by omega)]), hfn, Bx.of_bw (hb1.trans hb2)⟩
  case round =>
    obtain ⟨k, hk, rfl, hbk, hfk, hw⟩ := hrel
    by_cases hlt : k < n
    · obtain ⟨h3, h4⟩ := hbk.cell (c := o + k) (by omega)
      have z3 := hF (o + k)
      have e3 : sclF F o k (invR c) (o + k) = F (o + k) := by unfold sclF; rw [if_neg (by omega)]
      rw [e3] at h3
      have k0 : (0 : Int) ≤ (k : Int) := Int.natCast_nonneg _
      have k1 : (k : Int) < (n : Int) := by omega
      have hset : BlockIs (wr.setCell ⟨g, o + k, none⟩ (.int .u8 (mulI (invR c) (F (o + k))))) g N (sclF F o (k + 1) (invR c)) := hbk.set (by omega) sclF_at (fun j hj hne => sclF_ne hne)
      have hwx : Bx (· = g) w (wr.setCell ⟨g, o + k, none⟩ (.int .u8 (mulI (invR c) (F (o + k))))) := hw.put rfl
      have hfx : FnMul (wr.setCell ⟨g, o + k, none⟩ (.int .u8 (mulI (invR c) (F (o + k))))) fv gf (invR c) := hfk.keepx ((Bx.refl (· = g) wr).put (j := o + k) rfl) (by omega)
      clear e3 hbk hw
      rcases hfk with ⟨rfl, hcell⟩ | ⟨rfl, cur, hcur, hv⟩
      · go_wp2_with (go_at_call 59; refine (fn1_any (invR c) _ _ (by omega) (by omega) (by omega) (by omega) _ ?_).mono ?_; exact hcell; rintro e w' ⟨rfl, hw'⟩; subst w')
        go_roundw
        case rel => exact ⟨k + 1, by omega, by go_num, hset, hfx, hwx⟩
        case measure => simp [intOf]; omega
      · go_wp2_with (go_at_call 60; refine (fn2_any (invR c) _ _ (by omega) (by omega) _ cur ?_ hv).mono ?_; exact hcur; rintro e w' ⟨rfl, hw'⟩; subst w')
        go_roundw
        case rel => exact ⟨k + 1, by omega, by go_num, hset, hfx, hwx⟩
        case measure => simp [intOf]; omega
    · have ek : n = k := by omega
      subst ek
      go_wp2
      go_end0
      exact ⟨rfl, hbk, hw⟩

end Go.Proofs.Ytbhbdhkifkmkbaa
