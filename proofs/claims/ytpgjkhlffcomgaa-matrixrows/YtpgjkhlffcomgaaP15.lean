/- The document's own Mul for whatever matrices; results of one and the other held side by side. -/
import Derived.Test.YtpgjkhlffcomgaaP14
namespace Go.Proofs.Ytpgjkhlffcomgaa
open Go.RowKit

theorem rmm_bad1 (A B : Option Addr) (n m ca cb : Nat) (R : Nat → Option Addr) (L C : Nat → Nat) (Z : Nat → Nat → Int) (w : World) (ha : MatAt w A n R L C Z) (x : Int) (hx : Wrong n L x) (h0 : x ≠ 0) :
    Calls Try.prog 19 #[.slice A n ca, .slice B m cb] w fun e w' => e = .returned (.tuple #[.slice none 0 0, .int .i64 x]) ∧ Bw w w' := by
  have e1 : (x == 0) = false := by simpa using h0
  have e2 : (x != 0) = true := by simpa using h0
  go_enter Try.func19, Try.ntmps19
  go_wp2_with (go_at_call 37; refine (rbad_any _ _ _ _ _ _ _ _ ha).mono ?_; rintro e w1 ⟨y, rfl, hx', hw⟩; obtain rfl := Wrong.unique hx' hx)
  go_ret2
  exact ⟨rfl, hw⟩

theorem rmm_bad2 (A B : Option Addr) (n m ca cb : Nat) (R S : Nat → Option Addr) (L C M D : Nat → Nat) (Z Y : Nat → Nat → Int) (w : World) (ha : MatAt w A n R L C Z) (hb : MatAt w B m S M D Y) (hx : Wrong n L 0) (x : Int) (hy : Wrong m M x) (h0 : x ≠ 0) :
    Calls Try.prog 19 #[.slice A n ca, .slice B m cb] w fun e w' => e = .returned (.tuple #[.slice none 0 0, .int .i64 x]) ∧ Bw w w' := by
  have e1 : (x == 0) = false := by simpa using h0
  have e2 : (x != 0) = true := by simpa using h0
  go_enter Try.func19, Try.ntmps19
  go_wp2_with (first
    | (go_at_call_of 37 (Value.slice A n ca); refine (rbad_any _ _ _ _ _ _ _ _ ha).mono ?_; rintro e w1 ⟨y, rfl, hx', hw⟩; obtain rfl := Wrong.unique hx' hx; have hb1 := hb.keep hw)
    | (go_at_call_of 37 (Value.slice B m cb); refine (rbad_any _ _ _ _ _ _ _ _ hb1).mono ?_; rintro e w2 ⟨y, rfl, hx', hw2⟩; obtain rfl := Wrong.unique hx' hy))
  go_ret2
  exact ⟨rfl, hw.trans hw2⟩

theorem rmm_bad3 (A B : Option Addr) (n m ca cb : Nat) (R S : Nat → Option Addr) (L C M D : Nat → Nat) (Z Y : Nat → Nat → Int) (w : World) (ha : MatAt w A n R L C Z) (hb : MatAt w B m S M D Y) (hx : Wrong n L 0) (hy : Wrong m M 0) (h0 : colsN n L ≠ m) :
    Calls Try.prog 19 #[.slice A n ca, .slice B m cb] w fun e w' => e = .returned (.tuple #[.slice none 0 0, .int .i64 6]) ∧ Bw w w' := by
  have e1 : (colsI n L != (m : Int)) = true := by rw [colsI_eq]; simp; omega
  go_enter Try.func19, Try.ntmps19
  go_wp2_with (first
    | (go_at_call_of 37 (Value.slice A n ca); refine (rbad_any _ _ _ _ _ _ _ _ ha).mono ?_; rintro e w1 ⟨y, rfl, hx', hw⟩; obtain rfl := Wrong.unique hx' hx; have hb1 := hb.keep hw; have ha1 := ha.keep hw)
    | (go_at_call_of 37 (Value.slice B m cb); refine (rbad_any _ _ _ _ _ _ _ _ hb1).mono ?_; rintro e w2 ⟨y, rfl, hx', hw2⟩; obtain rfl := Wrong.unique hx' hy; have ha2 := ha1.keep hw2)
    | (go_at_call 28; refine (rcols_any _ _ _ _ _ _ _ _ ha2).mono ?_; rintro e w' ⟨rfl, hw'⟩; subst w'))
  go_ret2
  exact ⟨rfl, hw.trans hw2⟩

/-- a matrix in memory, as a value -/
def MatVal (w : World) (v : Value) (n : Nat) (L : Nat → Nat) (Z : Nat → Nat → Int) : Prop := ∃ A cap R C, v = .slice A n cap ∧ MatAt w A n R L C Z

theorem val_none (w : World) (L : Nat → Nat) (Z : Nat → Nat → Int) : MatVal w (.slice none 0 0) 0 L Z := ⟨_, _, fun _ => none, fun _ => 0, rfl, Or.inl rfl, fun r hr => by omega⟩
theorem OwnMat.val {w : World} {base n : Nat} {v : Value} {R : Nat → Option Addr} {L C : Nat → Nat} {Z : Nat → Nat → Int} (h : OwnMat w base v n R L C Z) : MatVal w v n L Z := by
  obtain ⟨A, cap, rfl, hm⟩ := mat_of_own h.own h.row
  exact ⟨A, cap, R, C, rfl, hm⟩

theorem rmm_all (A B : Option Addr) (n m ca cb : Nat) (R S : Nat → Option Addr) (L C M D : Nat → Nat) (Z Y : Nat → Nat → Int) (w : World) (ha : MatAt w A n R L C Z) (hb : MatAt w B m S M D Y) :
    Calls Try.prog 19 #[.slice A n ca, .slice B m cb] w fun e w' => ∃ v x k q, e = .returned (.tuple #[v, .int .i64 x]) ∧ MatVal w' v k (fun _ => q) (prodZ m Z Y) ∧ MulSays n L m M x k q ∧ Bw w w' := by
  obtain ⟨x, hx⟩ := wrong_some_x n L
  obtain ⟨y, hy⟩ := wrong_some_x m M
  by_cases h1 : x = 0
  · subst h1
    by_cases h2 : y = 0
    · subst h2
      by_cases h3 : colsN n L = m
      · have hc := wrong_cols hy (colsI_eq m M)
        have hc' := wrong_cols (q := m) hx (by rw [colsI_eq, h3])
        refine (rmm_ok A B n m (colsN m M) ca cb R S L C M D Z Y w ha hb hx hy (wrong_ok hx).1 (wrong_ok hy).1 hc.1 (by rw [colsI_eq, h3]) (colsI_eq _ _) hc'.2 hc.2).mono ?_
        rintro e w' ⟨v, R', C', he, hm, hw⟩
        exact ⟨v, 0, n, colsN m M, he, hm.val, Or.inr (Or.inr (Or.inr ⟨hx, hy, h3, rfl, rfl, rfl⟩)), hw⟩
      · refine (rmm_bad3 A B n m ca cb R S L C M D Z Y w ha hb hx hy h3).mono ?_
        rintro e w' ⟨he, hw⟩
        exact ⟨_, 6, 0, 0, he, val_none _ _ _, Or.inr (Or.inr (Or.inl ⟨hx, hy, h3, rfl, rfl⟩)), hw⟩
    · refine (rmm_bad2 A B n m ca cb R S L C M D Z Y w ha hb hx y hy h2).mono ?_
      rintro e w' ⟨he, hw⟩
      exact ⟨_, y, 0, 0, he, val_none _ _ _, Or.inr (Or.inl ⟨hx, hy, h2, rfl⟩), hw⟩
  · refine (rmm_bad1 A B n m ca cb R L C Z w ha x hx h1).mono ?_
    rintro e w' ⟨he, hw⟩
    exact ⟨_, x, 0, 0, he, val_none _ _ _, Or.inl ⟨hx, h1, rfl⟩, hw⟩

theorem mulsays_unique {n m k q k' q' : Nat} {L M : Nat → Nat} {x x' : Int} (h : MulSays n L m M x k q) (h' : MulSays n L m M x' k' q') : x = x' ∧ k = k' ∧ (k = 0 ∨ q = q') := by
  rcases h with ⟨a, b, c⟩ | ⟨a, b, c, d⟩ | ⟨a, b, c, d, e⟩ | ⟨a, b, c, d, e, f⟩ <;> rcases h' with ⟨a', b', c'⟩ | ⟨a', b', c', d'⟩ | ⟨a', b', c', d', e'⟩ | ⟨a', b', c', d', e', f'⟩
  · exact ⟨Wrong.unique a a', by omega, Or.inl c⟩
  · exact absurd (Wrong.unique a a') b
  · exact absurd (Wrong.unique a a') b
  · exact absurd (Wrong.unique a a') b
  · exact absurd (Wrong.unique a' a) b'
  · exact ⟨Wrong.unique b b', by omega, Or.inl d⟩
  · exact absurd (Wrong.unique b b') c
  · exact absurd (Wrong.unique b b') c
  · exact absurd (Wrong.unique a' a) b'
  · exact absurd (Wrong.unique b' b) c'
  · exact ⟨by omega, by omega, Or.inl e⟩
  · exact absurd c' c
  · exact absurd (Wrong.unique a' a) b'
  · exact absurd (Wrong.unique b' b) c'
  · exact absurd c c'
  · exact ⟨by omega, by omega, Or.inr (by omega)⟩

/-- what One says -/
def OneSays (n x : Int) (k : Nat) : Prop := (n < 0 ∧ x = 1 ∧ k = 0) ∨ (32 < n ∧ x = 2 ∧ k = 0) ∨ (0 ≤ n ∧ n ≤ 32 ∧ x = 0 ∧ (k : Int) = n)
theorem onesays_unique {n x x' : Int} {k k' : Nat} (h : OneSays n x k) (h' : OneSays n x' k') : x = x' ∧ k = k' := by
  unfold OneSays at h h'; omega

theorem one_all (n : Int) (w : World) : Calls Try.prog 20 #[.int .i64 n] w fun e w' => ∃ v x k, e = .returned (.tuple #[v, .int .i64 x]) ∧ MatVal w' v k (fun _ => k) oneZ ∧ OneSays n x k ∧ Bw w w' := by
  by_cases h1 : n < 0
  · refine (one_neg n h1 w).mono ?_
    rintro e w' ⟨he, rfl⟩
    exact ⟨_, 1, 0, he, val_none _ _ _, Or.inl ⟨h1, rfl, rfl⟩, Bw.refl _⟩
  · by_cases h2 : 32 < n
    · refine (one_long n h2 w).mono ?_
      rintro e w' ⟨he, rfl⟩
      exact ⟨_, 2, 0, he, val_none _ _ _, Or.inr (Or.inl ⟨h2, rfl, rfl⟩), Bw.refl _⟩
    · obtain ⟨k, rfl⟩ := Int.eq_ofNat_of_zero_le (show 0 ≤ n by omega)
      refine (one_ok k (by omega) w).mono ?_
      rintro e w' ⟨v, he, ⟨A, cap, R, C, hv, hm⟩, hw⟩
      exact ⟨v, 0, k, he, ⟨A, cap, R, C, hv, hm.mat⟩, Or.inr (Or.inr ⟨by omega, by omega, rfl, rfl⟩), hw⟩

theorem rone_all (n : Int) (w : World) : Calls Try.prog 21 #[.int .i64 n] w fun e w' => ∃ v x k, e = .returned (.tuple #[v, .int .i64 x]) ∧ MatVal w' v k (fun _ => k) oneZ ∧ OneSays n x k ∧ Bw w w' := by
  by_cases h1 : n < 0
  · refine (rone_neg n h1 w).mono ?_
    rintro e w' ⟨he, rfl⟩
    exact ⟨_, 1, 0, he, val_none _ _ _, Or.inl ⟨h1, rfl, rfl⟩, Bw.refl _⟩
  · by_cases h2 : 32 < n
    · refine (rone_long n h2 w).mono ?_
      rintro e w' ⟨he, rfl⟩
      exact ⟨_, 2, 0, he, val_none _ _ _, Or.inr (Or.inl ⟨h2, rfl, rfl⟩), Bw.refl _⟩
    · obtain ⟨k, rfl⟩ := Int.eq_ofNat_of_zero_le (show 0 ≤ n by omega)
      refine (rone_ok k (by omega) w).mono ?_
      rintro e w' ⟨v, R, C, he, hm, hw⟩
      exact ⟨v, 0, k, he, hm.val, Or.inr (Or.inr ⟨by omega, by omega, rfl, rfl⟩), hw⟩

theorem bulk_le (L : Nat → Nat) : ∀ k, k ≤ bulk L k ∧ ∀ r, r < k → L r ≤ bulk L k
  | 0 => ⟨Nat.zero_le _, fun r hr => by omega⟩
  | k + 1 => by
    have h := bulk_le L k
    have e : bulk L (k + 1) = bulk L k + 1 + L k := rfl
    refine ⟨by omega, fun r hr => ?_⟩
    by_cases e' : r = k
    · subst e'; omega
    · have := h.2 r (by omega); omega

theorem OwnMat.keepx {S : Nat → Prop} {W W' : World} {base : Nat} {v : Value} {n : Nat} {R : Nat → Option Addr} {L C : Nat → Nat} {Z : Nat → Nat → Int} (h : OwnMat W base v n R L C Z) (k : Bx S W W') (hS : ∀ b, S b → b < base) : OwnMat W' base v n R L C Z := by
  refine ⟨?_, fun r hr => ?_, h.cap, fun r a hr ha => ?_⟩
  · obtain ⟨h1, h2⟩ := h.own
    refine ⟨h1, ?_⟩
    rcases h2 with h | ⟨b, cap, cur, hv, hb, hg, hr⟩
    · exact Or.inl h
    · exact Or.inr ⟨b, cap, cur, hv, hb, (k.block b (Array.getElem?_eq_some_iff.1 hg).1 (fun e => by have := hS b e; omega)).trans hg, hr⟩
  · refine (h.row r hr).keepx k (fun b o e hL hs => ?_)
    have h1 := (h.apart r _ hr e).1
    have h2 := hS b hs
    simp only at h1
    omega
  · have h1 := h.apart r a hr ha
    exact ⟨h1.1, Nat.lt_of_lt_of_le h1.2.1 k.size, h1.2.2⟩

theorem FreeRows.keepx {S : Nat → Prop} {W W' : World} {base : Nat} {v : Value} {n : Nat} {R : Nat → Option Addr} {L C : Nat → Nat} {Z : Nat → Nat → Int} (f : FreeRows W n R) (h : OwnMat W base v n R L C Z) (k : Bx S W W') (hS : ∀ b, S b → b < base) : FreeRows W' n R := by
  intro r a hr ha
  obtain ⟨cur, hc⟩ := f r a hr ha
  have h1 := (h.apart r a hr ha).1
  exact ⟨cur, (k.block _ (Array.getElem?_eq_some_iff.1 hc).1 (fun e => by have := hS _ e; omega)).trans hc⟩

theorem own_mat {W : World} {base : Nat} {A : Option Addr} {cap : Nat} {n : Nat} {R : Nat → Option Addr} {L C : Nat → Nat} {Z : Nat → Nat → Int} (h : OwnMat W base (.slice A n cap) n R L C Z) : MatAt W A n R L C Z := by
  obtain ⟨A', cap', e, hm⟩ := mat_of_own h.own h.row
  cases e; exact hm
theorem own_matw {W : World} {base : Nat} {A : Option Addr} {cap : Nat} {n : Nat} {R : Nat → Option Addr} {L C : Nat → Nat} {Z : Nat → Nat → Int} (h : OwnMat W base (.slice A n cap) n R L C Z) (f : FreeRows W n R) : MatW W (RowsOf n R) A n R L C := by
  obtain ⟨A', cap', e, _, hm⟩ := matw_of h f
  cases e; exact hm
theorem rows_in {W : World} {base : Nat} {v : Value} {n : Nat} {R : Nat → Option Addr} {L C : Nat → Nat} {Z : Nat → Nat → Int} (h : OwnMat W base v n R L C Z) : ∀ b, RowsOf n R b → base ≤ b ∧ b < W.heap.size := by
  rintro b ⟨r, a, hr, ha, rfl⟩
  have := h.apart r a hr ha
  exact ⟨this.1, this.2.1⟩

theorem mulsays_le {n m k q : Nat} {L M : Nat → Nat} {x : Int} (h : MulSays n L m M x k q) : k ≤ 32 := by
  rcases h with ⟨_, _, h⟩ | ⟨_, _, _, h⟩ | ⟨_, _, _, _, h⟩ | ⟨h1, _, _, _, h, _⟩
  · omega
  · omega
  · omega
  · have := (wrong_ok h1).1; omega
theorem onesays_le {n x : Int} {k : Nat} (h : OneSays n x k) : k ≤ 32 := by unfold OneSays at h; omega

/-- a part of a tuple, as a step of its own -/
theorem wpList_extract {P : Program} {w : World} {ops : Array Oper} {rest : List Oper} {o : Oper} {a : Act} {Q : Exit → Act → World → Prop} (hgd : o.guard = none) (x : Operand) (i : Nat) (ho : o.op = .extract x i) (vs : Array Value) (hx : a.eval x = .tuple vs) (v : Value) (hv : vs[i]? = some v)
    (h : wpList P ops Q rest (a.put o.dst v) w) : wpList P ops Q (o :: rest) a w := by
  refine wpList_plain hgd fun K hK => ?_
  have hrun : (Instr.extract (.tuple vs) i).run P w = .ok v w := by simp [Instr.extract, hv]
  unfold Oper.wp
  simp [execOp, ho, hx, hrun, Result.andThen]
  exact hK _ _ h

theorem same_self (n : Nat) (L : Nat → Nat) (Z : Nat → Nat → Int) : SameM n n L L Z Z := ⟨rfl, fun _ _ => ⟨rfl, fun _ _ => rfl⟩⟩

end Go.Proofs.Ytpgjkhlffcomgaa
