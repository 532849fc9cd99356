/- The document's own Inverse, Rank and Turned for whatever matrices; each tells one thing alone. -/
import Derived.Test.YtpgjkhlffcomgaaP15
import Derived.Test.YtpgjkhlffcomgaaM16
namespace Go.Proofs.Ytpgjkhlffcomgaa
open Go.RowKit

theorem rinv_all2 (A : Option Addr) (n ca : Nat) (R : Nat → Option Addr) (L C : Nat → Nat) (Z : Nat → Nat → Int) (w : World) (ha : MatAt w A n R L C Z) :
    Calls Try.prog 25 #[.slice A n ca] w fun e w' => ∃ v x k Y, e = .returned (.tuple #[v, .int .i64 x]) ∧ MatVal w' v k (fun _ => n) Y ∧ IvSays n L Z Y x k ∧ Bw w w' := by
  obtain ⟨x, hx⟩ := wrong_some_x n L
  by_cases h1 : x = 0
  · subst h1
    by_cases h2 : colsN n L = n
    · have hci : colsI n L = (n : Int) := by rw [colsI_eq, h2]
      have says : ∀ e w', InvSays n Z e w' ∧ Bw w w' → ∃ v x k Y, e = .returned (.tuple #[v, .int .i64 x]) ∧ MatVal w' v k (fun _ => n) Y ∧ IvSays n L Z Y x k ∧ Bw w w' := by
        rintro e w' ⟨⟨he, hno⟩ | ⟨A', cap', R', C', Y, he, hm, hY⟩, hw⟩
        · exact ⟨_, 20, 0, oneZ, he, val_none _ _ _, Or.inr (Or.inr ⟨hx, h2, Or.inl ⟨rfl, rfl, hno⟩⟩), hw⟩
        · exact ⟨_, 0, n, Y, he, ⟨A', cap', R', C', rfl, hm⟩, Or.inr (Or.inr ⟨hx, h2, Or.inr ⟨rfl, rfl, hY⟩⟩), hw⟩
      by_cases h0 : n = 0
      · subst h0
        exact (rinverse_none A ca R L C Z w ha).mono says
      · exact (rinverse_all A n ca R L C Z w ha hx (wrong_ok hx).1 (by omega) hci (wrong_cols hx hci).2).mono says
    · refine (rinverse_shape A n ca R L C Z w ha hx (by rw [colsI_eq]; simp; omega)).mono ?_
      rintro e w' ⟨he, hw⟩
      exact ⟨_, 6, 0, oneZ, he, val_none _ _ _, Or.inr (Or.inl ⟨hx, h2, rfl, rfl⟩), hw⟩
  · refine (rinverse_bad A n ca R L C Z w ha x hx (by simpa using h1)).mono ?_
    rintro e w' ⟨he, hw⟩
    exact ⟨_, x, 0, oneZ, he, val_none _ _ _, Or.inl ⟨hx, h1, rfl⟩, hw⟩

theorem rrk_all (A : Option Addr) (n ca : Nat) (R : Nat → Option Addr) (L C : Nat → Nat) (Z : Nat → Nat → Int) (w : World) (ha : MatAt w A n R L C Z) (hC : ∀ r, r < n → R r = none → C r = 0) :
    Calls Try.prog 26 #[.slice A n ca] w fun e w' => ∃ (x : Int) (r : Nat), e = .returned (.tuple #[.int .i64 (r : Int), .int .i64 x]) ∧ RankSays n L Z x r ∧ Bw w w' := by
  obtain ⟨x, hx⟩ := wrong_some_x n L
  by_cases h1 : x = 0
  · subst h1
    refine (rrank_ok A n ca R L C Z w ha hC hx).mono ?_
    rintro e w' ⟨r, he, hr, hw⟩
    exact ⟨0, r, he, Or.inr ⟨hx, rfl, hr⟩, hw⟩
  · refine (rrank_bad A n ca R L C Z w ha x hx (by simpa using h1)).mono ?_
    rintro e w' ⟨he, hw⟩
    exact ⟨x, 0, he, Or.inl ⟨hx, h1, rfl⟩, hw⟩

theorem rtur_all (A : Option Addr) (n ca : Nat) (R : Nat → Option Addr) (L C : Nat → Nat) (Z : Nat → Nat → Int) (w : World) (ha : MatAt w A n R L C Z) :
    Calls Try.prog 27 #[.slice A n ca] w fun e w' => ∃ v x k, e = .returned (.tuple #[v, .int .i64 x]) ∧ MatVal w' v k (fun _ => n) (tz n Z) ∧ TurnSays n L x k ∧ Bw w w' := by
  obtain ⟨x, hx⟩ := wrong_some_x n L
  by_cases h1 : x = 0
  · subst h1
    by_cases h2 : 32 < colsN n L
    · refine (turned_long A n ca R L C Z w ha hx (by rw [colsI_eq]; omega)).mono ?_
      rintro e w' ⟨he, hw⟩
      exact ⟨_, 2, 0, he, val_none _ _ _, Or.inr (Or.inl ⟨hx, h2, rfl, rfl⟩), hw⟩
    · refine (turned_ok A n ca (colsN n L) R L C Z w ha hx (wrong_ok hx).1 (colsI_eq _ _) (by omega) (wrong_cols hx (colsI_eq _ _)).2).mono ?_
      rintro e w' ⟨v, R', C', he, hm, hw⟩
      exact ⟨v, 0, colsN n L, he, hm.val, Or.inr (Or.inr ⟨hx, by omega, rfl, rfl⟩), hw⟩
  · refine (turned_bad A n ca R L C Z w ha x hx (by simpa using h1)).mono ?_
    rintro e w' ⟨he, hw⟩
    exact ⟨_, x, 0, he, val_none _ _ _, Or.inl ⟨hx, h1, rfl⟩, hw⟩

theorem ivsays_unique {n k k' : Nat} {L : Nat → Nat} {Z Y Y' : Nat → Nat → Int} {x x' : Int} (h : IvSays n L Z Y x k) (h' : IvSays n L Z Y' x' k') : x = x' ∧ k = k' ∧ (k = 0 ∨ (k = n ∧ ∀ i j, i < n → j < n → fm Y i j = fm Y' i j)) := by
  rcases h with ⟨a, b, c⟩ | ⟨a, b, c, d⟩ | ⟨a, b, ⟨c, d, e⟩ | ⟨c, d, e⟩⟩ <;> rcases h' with ⟨a', b', c'⟩ | ⟨a', b', c', d'⟩ | ⟨a', b', ⟨c', d', e'⟩ | ⟨c', d', e'⟩⟩
  · exact ⟨Wrong.unique a a', by omega, Or.inl c⟩
  · exact absurd (Wrong.unique a a') b
  · exact absurd (Wrong.unique a a') b
  · exact absurd (Wrong.unique a a') b
  · exact absurd (Wrong.unique a' a) b'
  · exact ⟨by omega, by omega, Or.inl d⟩
  · exact absurd b' b
  · exact absurd b' b
  · exact absurd (Wrong.unique a' a) b'
  · exact absurd b b'
  · exact ⟨by omega, by omega, Or.inl d⟩
  · exact absurd ⟨_, e'⟩ e
  · exact absurd (Wrong.unique a' a) b'
  · exact absurd b b'
  · exact absurd ⟨_, e⟩ e'
  · exact ⟨by omega, by omega, Or.inr ⟨d, La.inv_unique _ _ _ _ e e'⟩⟩

theorem ranksays_unique {n r r' : Nat} {L : Nat → Nat} {Z : Nat → Nat → Int} {x x' : Int} (h : RankSays n L Z x r) (h' : RankSays n L Z x' r') : x = x' ∧ r = r' := by
  rcases h with ⟨a, b, c⟩ | ⟨a, b, c⟩ <;> rcases h' with ⟨a', b', c'⟩ | ⟨a', b', c'⟩
  · exact ⟨Wrong.unique a a', by omega⟩
  · exact absurd (Wrong.unique a a') b
  · exact absurd (Wrong.unique a' a) b'
  · exact ⟨by omega, La.rank_unique c c'⟩

theorem turnsays_unique {n k k' : Nat} {L : Nat → Nat} {x x' : Int} (h : TurnSays n L x k) (h' : TurnSays n L x' k') : x = x' ∧ k = k' := by
  rcases h with ⟨a, b, c⟩ | ⟨a, b, c, d⟩ | ⟨a, b, c, d⟩ <;> rcases h' with ⟨a', b', c'⟩ | ⟨a', b', c', d'⟩ | ⟨a', b', c', d'⟩
  · exact ⟨Wrong.unique a a', by omega⟩
  · exact absurd (Wrong.unique a a') b
  · exact absurd (Wrong.unique a a') b
  · exact absurd (Wrong.unique a' a) b'
  · exact ⟨by omega, by omega⟩
  · omega
  · exact absurd (Wrong.unique a' a) b'
  · omega
  · exact ⟨by omega, by omega⟩

/-- what was new stays, whatever else was made -/
theorem NewMat.keep {w w' : World} {base : Nat} {A : Option Addr} {n : Nat} {R : Nat → Option Addr} {L C : Nat → Nat} {Z : Nat → Nat → Int} (h : NewMat w base A n R L C Z) (k : Bw w w') : NewMat w' base A n R L C Z :=
  ⟨h.mat.keep k, h.head.imp id (fun ⟨g, o, e, h1, h2⟩ => ⟨g, o, e, h1, Nat.lt_of_lt_of_le h2 k.size⟩), fun r hr => (h.rows r hr).imp id (fun ⟨g, o, e, h1, h2⟩ => ⟨g, o, e, h1, Nat.lt_of_lt_of_le h2 k.size⟩)⟩

theorem ivsays_le {n k : Nat} {L : Nat → Nat} {Z Y : Nat → Nat → Int} {x : Int} (h : IvSays n L Z Y x k) : k ≤ 32 := by
  rcases h with ⟨a, b, c⟩ | ⟨a, b, c, d⟩ | ⟨a, b, ⟨c, d, e⟩ | ⟨c, d, e⟩⟩
  · omega
  · omega
  · omega
  · have := (wrong_ok a).1; omega
theorem turnsays_le {n k : Nat} {L : Nat → Nat} {x : Int} (h : TurnSays n L x k) : k ≤ 32 := by
  rcases h with ⟨a, b, c⟩ | ⟨a, b, c, d⟩ | ⟨a, b, c, d⟩ <;> omega

end Go.Proofs.Ytpgjkhlffcomgaa
