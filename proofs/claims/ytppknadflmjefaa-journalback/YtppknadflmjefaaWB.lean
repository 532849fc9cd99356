/- Layer 15: whole or not at all: the mathematics. -/
import Derived.Test.YtppknadflmjefaaWA
namespace Go.Proofs.Ytppknadflmjefaa
set_option linter.unusedVariables false
set_option linter.unusedSimpArgs false
namespace Jl

/-- the bytes of a sector, as they last -/
def sec (S : Dsk) (s i : Nat) : Int := S.last (64 * s + i)
/-- the first c bytes are y's -/
def tear (y x : Nat → Int) (c i : Nat) : Int := if i < c then y i else x i
/-- bytes that have a count at both ends -/
def Ends (y : Nat → Int) (n : Nat) : Prop := ∀ i, i < 8 → y i = ((byt n (7 - i) : Nat) : Int) ∧ y (56 + i) = ((byt n (7 - i) : Nat) : Int)
/-- no torn head of the next count is a greater one -/
def Weak (n : Nat) (x : Nat → Int) : Prop := ∀ (y : Nat → Int) (c : Nat), c ≤ 63 → Ends y (n + 1) → num (tear y x c) 8 = num (fun i => tear y x c (56 + i)) 8 → num (tear y x c) 8 ≤ n
theorem ends_hb (h : Hed) : Ends (hb h) h.n := fun i hi => by
  refine ⟨by unfold hb; rw [if_pos hi], ?_⟩
  unfold hb
  rw [if_neg (by omega), if_neg (by omega), if_neg (by omega), if_pos (by omega), show 63 - (56 + i) = 7 - i by omega]
theorem weak_of {x : Nat → Int} {n m : Nat} (hx : ∀ i, 0 ≤ x i ∧ x i < 256) (h1 : num x 8 = m) (h2 : num (fun i => x (56 + i)) 8 = m) (hm : m ≤ n) (hne : m % 256 ≠ (n + 1) % 256) (hn : n + 1 < 256 ^ 8) : Weak n x := fun y c hc hy e => by
  by_cases h8 : 8 ≤ c
  · exfalso
    have e1 : num (tear y x c) 8 = n + 1 := by
      rw [num_congr (g := fun i => ((byt (n + 1) (7 - i) : Nat) : Int)) (fun i hi => by unfold tear; rw [if_pos (by omega)]; exact (hy i hi).1), num_all (n + 1) 7 hn]
    have hl : tear y x c (56 + 7) = x 63 := by unfold tear; rw [if_neg (by omega)]
    have e2 := num_mod (f := fun i => tear y x c (56 + i)) (k := 7) (by rw [hl]; exact hx 63)
    have e3 := num_mod (f := fun i => x (56 + i)) (k := 7) (hx 63)
    rw [hl] at e2
    rw [h2] at e3
    rw [← e, e1] at e2
    exact hne (e3.trans e2.symm)
  · have e2 : num (fun i => tear y x c (56 + i)) 8 = m := by
      rw [← h2]
      exact num_congr (fun i hi => by show tear y x c (56 + i) = _; unfold tear; rw [if_neg (by omega)])
    rw [e, e2]; exact hm
theorem Weak.tear {x y0 : Nat → Int} {n c0 : Nat} (h : Weak n x) (hc0 : c0 ≤ 63) (hy0 : Ends y0 (n + 1)) : Weak n (tear y0 x c0) := fun y c hc hy e => by
  have key : ∀ i, (i < 8 ∨ 56 ≤ i ∧ i < 64) → Jl.tear y (Jl.tear y0 x c0) c i = Jl.tear y x (max c c0) i := fun i hi => by
    have hyy : y i = y0 i := by
      rcases hi with hi | hi
      · rw [(hy i hi).1, (hy0 i hi).1]
      · have a := (hy (i - 56) (by omega)).2
        have b := (hy0 (i - 56) (by omega)).2
        rw [show 56 + (i - 56) = i by omega] at a b
        rw [a, b]
    unfold Jl.tear
    by_cases h1 : i < c
    · rw [if_pos h1, if_pos (by omega)]
    · rw [if_neg h1]
      by_cases h2 : i < c0
      · rw [if_pos h2, if_pos (by omega), hyy]
      · rw [if_neg h2, if_neg (by omega)]
  have k1 : num (Jl.tear y (Jl.tear y0 x c0) c) 8 = num (Jl.tear y x (max c c0)) 8 := num_congr (fun i hi => key i (.inl hi))
  have k2 : num (fun i => Jl.tear y (Jl.tear y0 x c0) c (56 + i)) 8 = num (fun i => Jl.tear y x (max c c0) (56 + i)) 8 := num_congr (fun i hi => key (56 + i) (.inr (by omega)))
  rw [k1, k2] at e
  rw [k1]
  exact h y (max c c0) (by omega) hy e
theorem Weak.congr {x x' : Nat → Int} {n : Nat} (h : Weak n x) (e : ∀ i, i < 64 → x' i = x i) : Weak n x' := fun y c hc hy eq => by
  have key : ∀ i, i < 64 → Jl.tear y x' c i = Jl.tear y x c i := fun i hi => by unfold Jl.tear; rw [e i hi]
  have k1 : num (Jl.tear y x' c) 8 = num (Jl.tear y x c) 8 := num_congr (fun i hi => key i (by omega))
  have k2 : num (fun i => Jl.tear y x' c (56 + i)) 8 = num (fun i => Jl.tear y x c (56 + i)) 8 := num_congr (fun i hi => key (56 + i) (by omega))
  rw [k1, k2] at eq
  rw [k1]
  exact h y c hc hy eq

/-- a disk with power on which nothing waits -/
structure Calm (S : Dsk) : Prop where
  alive : S.dead = false
  none : ∀ s, S.is s = false
  lb : ∀ i, 0 ≤ S.last i ∧ S.last i < 256
  n1 : S.n ≤ 65536
theorem Calm.read {S : Dsk} (h : Calm S) (p : Nat) : S.read p = S.last p := by unfold Dsk.read; rw [h.none]; rfl
/-- what stands on a disk is a journal's -/
structure Inv (J : Jn) (S : Dsk) : Prop where
  calm : Calm S
  dead : J.dead = false
  rc4 : 4 ≤ J.rc
  inR : J.r0 + J.rc ≤ S.n
  n : J.h.n < 1000000
  area : J.h.area ≤ 1
  len : J.h.len ≤ room J.rc
  lens : ∀ r ∈ J.L, r.length ≤ 65535
  dat : data (fun i => S.last (64 * start J.r0 J.rc J.h.area + i)) J.h.len = packed J.L
  held : hed (sec S (J.r0 + J.h.n % 2)) (J.h.n % 2) (room J.rc) = J.h
  e1 : num (sec S (J.r0 + J.h.n % 2)) 8 = J.h.n
  e2 : num (fun i => sec S (J.r0 + J.h.n % 2) (56 + i)) 8 = J.h.n
  zero : J.h.n = 0 → J.h = no
  weak : Weak J.h.n (sec S (J.r0 + (J.h.n + 1) % 2))
theorem tear_zero (y x : Nat → Int) : tear y x 0 = x := funext fun i => if_neg (by omega)
theorem Weak.le {x : Nat → Int} {n : Nat} (h : Weak n x) (room odd : Nat) : (hed x odd room).n ≤ n := by
  rcases hed_n x odd room with h0 | ⟨h1, h2, _⟩
  · omega
  · have := h (hb ⟨n + 1, 0, 0⟩) 0 (by omega) (ends_hb ⟨n + 1, 0, 0⟩)
    rw [tear_zero] at this
    have := this h2
    omega
theorem Inv.holds {J : Jn} {S : Dsk} (h : Inv J S) : holds S J.r0 J.rc = J.h := by
  unfold Jl.holds
  rw [hold_congr (c := fun i => S.last (64 * J.r0 + i)) (fun i _ => h.calm.read _)]
  unfold hold
  have hs0 : (fun i => S.last (64 * J.r0 + i)) = sec S J.r0 := rfl
  have hs1 : (fun i => S.last (64 * J.r0 + (64 + i))) = sec S (J.r0 + 1) := funext fun i => by unfold sec; congr 1; omega
  show pick (pick no (hed (fun i => S.last (64 * J.r0 + i)) 0 (room J.rc))) (hed (fun i => S.last (64 * J.r0 + (64 + i))) 1 (room J.rc)) = J.h
  rw [hs0, hs1]
  have hw := h.weak
  have hh := h.held
  rcases Nat.mod_two_eq_zero_or_one J.h.n with e | e
  · rw [show (J.h.n + 1) % 2 = 1 by omega] at hw
    rw [e, Nat.add_zero] at hh
    rw [hh]
    have ho := hw.le (room J.rc) 1
    have hp : pick no J.h = J.h := by
      unfold pick
      by_cases h0 : J.h.n = 0
      · rw [if_neg (by rw [h0]; exact Nat.lt_irrefl _), h.zero h0]
      · rw [if_pos (by show 0 < J.h.n; omega)]
    rw [hp]
    exact if_neg (by omega)
  · rw [show (J.h.n + 1) % 2 = 0 by omega, Nat.add_zero] at hw
    rw [e] at hh
    rw [hh]
    have ho := hw.le (room J.rc) 0
    have hne : (hed (sec S J.r0) 0 (room J.rc)).n < J.h.n := by
      rcases hed_n (sec S J.r0) 0 (room J.rc) with h0 | ⟨h1, _, h3⟩ <;> omega
    have hp : (pick no (hed (sec S J.r0) 0 (room J.rc))).n < J.h.n := by
      unfold pick
      split
      · exact hne
      · show 0 < J.h.n; omega
    exact if_pos hp
theorem Inv.opn {J : Jn} {S : Dsk} (h : Inv J S) : opn S J.r0 J.rc = some J := by
  have hd : Jl.dat S J.r0 J.rc = packed J.L := by
    unfold Jl.dat
    rw [h.holds, ← h.dat]
    exact data_congr (fun i _ => h.calm.read _)
  unfold Jl.opn
  rw [hd, spl_packed _ h.lens, h.holds]
  have := h.dead
  cases J
  simp only at this
  subst this
  rfl
/-- nothing changed that matters -/
theorem Inv.congr {J : Jn} {S S' : Dsk} (h : Inv J S) (c : Calm S') (hn : S'.n = S.n) (hh : ∀ p, 64 * J.r0 ≤ p → p < 64 * (J.r0 + 2) → S'.last p = S.last p) (hd : ∀ i, i < J.h.len → S'.last (64 * start J.r0 J.rc J.h.area + i) = S.last (64 * start J.r0 J.rc J.h.area + i)) : Inv J S' := by
  have hs : ∀ q, q < 2 → ∀ i, i < 64 → sec S' (J.r0 + q) i = sec S (J.r0 + q) i := fun q hq i hi => hh _ (by omega) (by omega)
  have m1 : J.h.n % 2 < 2 := Nat.mod_lt _ (by decide)
  have m2 : (J.h.n + 1) % 2 < 2 := Nat.mod_lt _ (by decide)
  refine ⟨c, h.dead, h.rc4, by rw [hn]; exact h.inR, h.n, h.area, h.len, h.lens, ?_, ?_, ?_, ?_, h.zero, ?_⟩
  · refine Eq.trans ?_ h.dat; exact data_congr hd
  · refine Eq.trans ?_ h.held; exact hed_congr (hs _ m1)
  · refine Eq.trans ?_ h.e1; exact num_congr (fun i hi => hs _ m1 i (by omega))
  · refine Eq.trans ?_ h.e2; exact num_congr (fun i hi => hs _ m1 (56 + i) (by omega))
  · exact h.weak.congr (hs _ m2)
/-- the head is torn -/
theorem Inv.torn {J : Jn} {S S' : Dsk} (h : Inv J S) (c : Calm S') (hn : S'.n = S.n) (y : Nat → Int) (hy : Ends y (J.h.n + 1)) (k : Nat) (hk : k ≤ 63)
    (hx : ∀ i, i < 64 → sec S' (J.r0 + (J.h.n + 1) % 2) i = tear y (sec S (J.r0 + (J.h.n + 1) % 2)) k i) (hh : ∀ i, i < 64 → sec S' (J.r0 + J.h.n % 2) i = sec S (J.r0 + J.h.n % 2) i) (hd : ∀ i, i < J.h.len → S'.last (64 * start J.r0 J.rc J.h.area + i) = S.last (64 * start J.r0 J.rc J.h.area + i)) : Inv J S' := by
  refine ⟨c, h.dead, h.rc4, by rw [hn]; exact h.inR, h.n, h.area, h.len, h.lens, ?_, ?_, ?_, ?_, h.zero, ?_⟩
  · refine Eq.trans ?_ h.dat; exact data_congr hd
  · refine Eq.trans ?_ h.held; exact hed_congr hh
  · refine Eq.trans ?_ h.e1; exact num_congr (fun i hi => hh i (by omega))
  · refine Eq.trans ?_ h.e2; exact num_congr (fun i hi => hh (56 + i) (by omega))
  · exact (h.weak.tear hk hy).congr hx
/-- the head is written -/
theorem Inv.nexts {J : Jn} {S S' : Dsk} (h : Inv J S) (c : Calm S') (hn : S'.n = S.n) (nx : Hed) (L' : List (List Nat)) (e : nx.n = J.h.n + 1) (hb' : J.h.n + 1 < 1000000) (ha : nx.area ≤ 1) (hl : nx.len ≤ room J.rc) (hL : ∀ r ∈ L', r.length ≤ 65535)
    (hx : ∀ i, i < 64 → sec S' (J.r0 + (J.h.n + 1) % 2) i = hb nx i) (hh : ∀ i, i < 64 → sec S' (J.r0 + J.h.n % 2) i = sec S (J.r0 + J.h.n % 2) i) (hd : data (fun i => S'.last (64 * start J.r0 J.rc nx.area + i)) nx.len = packed L') : Inv ⟨J.r0, J.rc, nx, L', false⟩ S' := by
  have hrc : J.rc ≤ 65536 := by have := h.inR; have := h.calm.n1; omega
  have hroom : room J.rc < 256 ^ 4 := by unfold room half; omega
  have en := ends_hb nx
  have m2 : (J.h.n + 1 + 1) % 2 = J.h.n % 2 := by omega
  refine ⟨c, rfl, h.rc4, by rw [hn]; exact h.inR, by show nx.n < _; omega, ha, hl, hL, hd, ?_, ?_, ?_, fun e0 => ?_, ?_⟩
  · show hed (sec S' (J.r0 + nx.n % 2)) (nx.n % 2) (room J.rc) = nx
    rw [e, hed_congr hx]
    exact hed_hb (by omega) (by rw [e]) ha hl (by omega)
  · show num (sec S' (J.r0 + nx.n % 2)) 8 = nx.n
    rw [e, num_congr (g := fun i => ((byt nx.n (7 - i) : Nat) : Int)) (fun i hi => (hx i (by omega)).trans (en i hi).1), num_all nx.n 7 (by omega), e]
  · show num (fun i => sec S' (J.r0 + nx.n % 2) (56 + i)) 8 = nx.n
    rw [e, num_congr (g := fun i => ((byt nx.n (7 - i) : Nat) : Int)) (fun i hi => (hx (56 + i) (by omega)).trans (en i hi).2), num_all nx.n 7 (by omega), e]
  · exfalso
    have : nx.n = 0 := e0
    omega
  · show Weak nx.n (sec S' (J.r0 + (nx.n + 1) % 2))
    rw [e, m2]
    refine weak_of (m := J.h.n) (fun i => c.lb _) ?_ ?_ (by omega) (by omega) (by omega)
    · refine Eq.trans ?_ h.e1; exact num_congr (fun i hi => hh i (by omega))
    · refine Eq.trans ?_ h.e2; exact num_congr (fun i hi => hh (56 + i) (by omega))

/-- what a Write and a Sync make of a calm disk: done, or cut, and then some first bytes of each sector at the restart -/
structure Done (S S' : Dsk) (x k : Nat) (f : Nat → Int) : Prop where
  calm : Calm S'
  n : S'.n = S.n
  last : ∀ p, S'.last p = if x ≤ p / 64 ∧ p / 64 < x + k then f (p - 64 * x) else S.last p
structure Cut (S S' : Dsk) (x k : Nat) (f : Nat → Int) : Prop where
  dead : S'.dead = true
  n : S'.n = S.n
  back : ∀ K m, Calm (S'.again K m) ∧ ∃ C : Nat → Nat, (∀ s, C s ≤ 64) ∧ ∀ p, (S'.again K m).last p = if (x ≤ p / 64 ∧ p / 64 < x + k) ∧ p % 64 < C (p / 64) then f (p - 64 * x) else S.last p
theorem last_cases {S : Dsk} (h : Calm S) (x k : Nat) (f : Nat → Int) (hf : ∀ i, 0 ≤ f i ∧ f i < 256) :
    ((last S x k f).1 = 0 ∧ Done S (last S x k f).2 x k f ∧ (S.fuse = -1 → (last S x k f).2.fuse = -1)) ∨ ((last S x k f).1 = 140 ∧ S.fuse ≠ -1 ∧ Cut S (last S x k f).2 x k f) := by
  have bdc : ∀ (c : Prop) [Decidable c] (a b : Int), (0 ≤ a ∧ a < 256) → (0 ≤ b ∧ b < 256) → 0 ≤ (if c then a else b) ∧ (if c then a else b) < 256 := fun c _ a b ha hb => by split; exact ha; exact hb
  unfold last
  rw [h.alive, if_neg (by decide)]
  by_cases hf0 : S.fuse = 0
  · rw [if_pos hf0]
    refine .inr ⟨rfl, by omega, ⟨rfl, rfl, fun K m => ?_⟩⟩
    have e : ∀ p, (S.killed.again K m).last p = S.last p := fun p => by
      exact if_neg (fun c => by have c1 : S.is (p / 64) = true := c.1; rw [h.none] at c1; cases c1)
    exact ⟨⟨rfl, fun _ => rfl, fun i => by rw [e]; exact h.lb i, h.n1⟩, fun _ => 0, fun _ => Nat.zero_le _, fun p => by rw [e, if_neg (fun c => absurd c.2 (Nat.not_lt_zero _))]⟩
  · rw [if_neg hf0]
    obtain ⟨S1, hS1⟩ : ∃ S1, S.burnt.put x k f = S1 := ⟨_, rfl⟩
    have h1d : S1.dead = false := by rw [← hS1]; exact h.alive
    have h1n : S1.n = S.n := by rw [← hS1]; rfl
    have h1i : ∀ s, S1.is s = if x ≤ s ∧ s < x + k then true else false := fun s => by
      rw [← hS1]
      show (if x ≤ s ∧ s < x + k then true else S.is s) = _
      rw [h.none]
    have h1w : ∀ p, x ≤ p / 64 ∧ p / 64 < x + k → S1.wait p = f (p - 64 * x) := fun p hp => by
      rw [← hS1]
      show (if 64 * x ≤ p ∧ p < 64 * (x + k) then f (p - 64 * x) else S.wait p) = _
      rw [if_pos (by omega)]
    have h1l : ∀ p, S1.last p = S.last p := fun p => by rw [← hS1]; rfl
    have h1f : S1.fuse = max (S.fuse - 1) (-1) := by rw [← hS1]; rfl
    rw [hS1]
    unfold Dsk.syncs
    rw [h1d, if_neg (by decide)]
    by_cases hf1 : S1.fuse = 0
    · rw [if_pos hf1]
      refine .inr ⟨rfl, by omega, ⟨rfl, h1n, fun K m => ?_⟩⟩
      have e : ∀ p, (S1.killed.again K m).last p = if (x ≤ p / 64 ∧ p / 64 < x + k) ∧ p % 64 < Dsk.kept K m (Dsk.cnt S1.is (p / 64)) then f (p - 64 * x) else S.last p := fun p => by
        show (if S1.is (p / 64) = true ∧ p % 64 < Dsk.kept K m (Dsk.cnt S1.is (p / 64)) then S1.wait p else S1.last p) = _
        rw [h1i, h1l]
        by_cases hp : x ≤ p / 64 ∧ p / 64 < x + k
        · rw [if_pos hp]
          by_cases hq : p % 64 < Dsk.kept K m (Dsk.cnt S1.is (p / 64))
          · rw [if_pos ⟨rfl, hq⟩, if_pos ⟨hp, hq⟩, h1w p hp]
          · rw [if_neg (fun c => hq c.2), if_neg (fun c => hq c.2)]
        · rw [if_neg hp, if_neg (fun c => by cases c.1), if_neg (fun c => hp c.1)]
      exact ⟨⟨rfl, fun _ => rfl, fun i => by rw [e]; exact bdc _ _ _ (hf _) (h.lb _), by show S1.n ≤ _; rw [h1n]; exact h.n1⟩, fun s => Dsk.kept K m (Dsk.cnt S1.is s), fun s => Dsk.kept_le _ _ _, e⟩
    · rw [if_neg hf1]
      have e : ∀ p, S1.burnt.synced.last p = if x ≤ p / 64 ∧ p / 64 < x + k then f (p - 64 * x) else S.last p := fun p => by
        show (if S1.is (p / 64) then S1.wait p else S1.last p) = _
        rw [h1i, h1l]
        by_cases hp : x ≤ p / 64 ∧ p / 64 < x + k
        · rw [if_pos hp, if_pos rfl, if_pos hp, h1w p hp]
        · rw [if_neg hp, if_neg (by decide), if_neg hp]
      refine .inl ⟨rfl, ⟨⟨h1d, fun _ => rfl, fun i => by rw [e]; exact bdc _ _ _ (hf _) (h.lb _), by show S1.n ≤ _; rw [h1n]; exact h.n1⟩, h1n, e⟩, fun e0 => ?_⟩
      show max (S1.fuse - 1) (-1) = -1
      rw [h1f, e0]; decide
end Jl
end Go.Proofs.Ytppknadflmjefaa
