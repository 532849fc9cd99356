/- Digests reckoned: a way that the kernel can go. -/
import Derived.Test.YtcpapaceggnaoaaDoorDm
namespace Sha

def force (n : Nat) (k : Nat → List Nat) : List Nat :=
  match n with
  | 0 => k 0
  | m + 1 => k (m + 1)
theorem force_eq (n : Nat) (k : Nat → List Nat) : force n k = k n := by cases n <;> rfl

/-- n rounds from round t on, the words so far in ws -/
def run (b : Nat → Nat) : Nat → Nat → List Nat → Nat → Nat → Nat → Nat → Nat → Nat → Nat → Nat → List Nat
  | 0, _, _, s0, s1, s2, s3, s4, s5, s6, s7 => [s0, s1, s2, s3, s4, s5, s6, s7]
  | n + 1, t, ws, s0, s1, s2, s3, s4, s5, s6, s7 =>
    force (nx b t ws) fun w => force (add (add (add (add s7 (SG1 s4)) (ch s4 s5 s6)) (kn t)) w) fun u => force (add u (add (SG0 s0) (maj s0 s1 s2))) fun x => force (add s3 u) fun y =>
      run b n (t + 1) (w :: ws) x s0 s1 s2 y s4 s5 s6

def eight (s : Nat → Nat) : List Nat := [s 0, s 1, s 2, s 3, s 4, s 5, s 6, s 7]

theorem run_eq (b s : Nat → Nat) : ∀ n t, run b n t (wl b t) (rounds b s t 0) (rounds b s t 1) (rounds b s t 2) (rounds b s t 3) (rounds b s t 4) (rounds b s t 5) (rounds b s t 6) (rounds b s t 7) = eight (rounds b s (t + n))
  | 0, _ => rfl
  | n + 1, t => by
    unfold run
    rw [force_eq, force_eq, force_eq, force_eq]
    have h := run_eq b s n (t + 1)
    rw [show t + 1 + n = t + (n + 1) by omega] at h
    exact h

def forceAll : List Nat → (List Nat → List Nat) → List Nat
  | [], k => k []
  | x :: xs, k => force x fun v => forceAll xs fun vs => k (v :: vs)
theorem forceAll_eq : ∀ (l : List Nat) (k : List Nat → List Nat), forceAll l k = k l
  | [], _ => rfl
  | x :: xs, k => by
    unfold forceAll
    rw [force_eq, forceAll_eq xs]

/-- the state behind n blocks, reckoned -/
def runs (g : Nat → Nat) : Nat → List Nat
  | 0 => eight iv
  | n + 1 => forceAll (runs g n) fun l => forceAll (run (fun i => g (64 * n + i)) 64 0 [] (l.getD 0 0) (l.getD 1 0) (l.getD 2 0) (l.getD 3 0) (l.getD 4 0) (l.getD 5 0) (l.getD 6 0) (l.getD 7 0)) fun m =>
      forceAll [add (l.getD 0 0) (m.getD 0 0), add (l.getD 1 0) (m.getD 1 0), add (l.getD 2 0) (m.getD 2 0), add (l.getD 3 0) (m.getD 3 0), add (l.getD 4 0) (m.getD 4 0), add (l.getD 5 0) (m.getD 5 0), add (l.getD 6 0) (m.getD 6 0), add (l.getD 7 0) (m.getD 7 0)] fun r => r

theorem eight_at (s : Nat → Nat) : (eight s).getD 0 0 = s 0 ∧ (eight s).getD 1 0 = s 1 ∧ (eight s).getD 2 0 = s 2 ∧ (eight s).getD 3 0 = s 3 ∧ (eight s).getD 4 0 = s 4 ∧ (eight s).getD 5 0 = s 5 ∧ (eight s).getD 6 0 = s 6 ∧ (eight s).getD 7 0 = s 7 :=
  ⟨rfl, rfl, rfl, rfl, rfl, rfl, rfl, rfl⟩
theorem run_all (b s : Nat → Nat) (n : Nat) : run b n 0 [] (s 0) (s 1) (s 2) (s 3) (s 4) (s 5) (s 6) (s 7) = eight (rounds b s n) := by
  have h := run_eq b s n 0
  rw [Nat.zero_add] at h
  exact h
theorem after_succ (g : Nat → Nat) (n i : Nat) : after g (n + 1) i = add (after g n i) (rounds (fun j => g (64 * n + j)) (after g n) 64 i) := by
  show taken (after g n) (fun j => g (64 * n + j)) i = _
  unfold taken
  exact Eq.refl _
theorem runs_eq (g : Nat → Nat) : ∀ n, runs g n = eight (after g n)
  | 0 => rfl
  | n + 1 => by
    unfold runs
    rw [forceAll_eq, forceAll_eq, forceAll_eq, runs_eq g n]
    obtain ⟨e0, e1, e2, e3, e4, e5, e6, e7⟩ := eight_at (after g n)
    rw [e0, e1, e2, e3, e4, e5, e6, e7, run_all]
    have ha := after_succ g n
    generalize rounds (fun j => g (64 * n + j)) (after g n) 64 = R at *
    obtain ⟨r0, r1, r2, r3, r4, r5, r6, r7⟩ := eight_at R
    rw [r0, r1, r2, r3, r4, r5, r6, r7, ← ha, ← ha, ← ha, ← ha, ← ha, ← ha, ← ha, ← ha]
    exact Eq.refl _

/-- a digest's 32 bytes, reckoned -/
def digs (f : Nat → Nat) (L : Nat) : List Nat :=
  forceAll (runs (pad f L) (blocks L)) fun l => (List.range 32).map fun i => l.getD (i / 4) 0 / 2 ^ (24 - 8 * (i % 4)) % 256
theorem digs_eq (f : Nat → Nat) (L : Nat) : digs f L = (List.range 32).map (dig f L) := by
  unfold digs
  rw [forceAll_eq, runs_eq]
  apply List.map_congr_left
  intro i hi
  have hi' := List.mem_range.1 hi
  unfold dig
  have e : (eight (after (pad f L) (blocks L))).getD (i / 4) 0 = after (pad f L) (blocks L) (i / 4) := by
    obtain ⟨e0, e1, e2, e3, e4, e5, e6, e7⟩ := eight_at (after (pad f L) (blocks L))
    have h : i / 4 = 0 ∨ i / 4 = 1 ∨ i / 4 = 2 ∨ i / 4 = 3 ∨ i / 4 = 4 ∨ i / 4 = 5 ∨ i / 4 = 6 ∨ i / 4 = 7 := by omega
    rcases h with h | h | h | h | h | h | h | h <;> rw [h] <;> assumption
  rw [e]

/-- the bytes abc -/
def fabc (i : Nat) : Nat := [97, 98, 99].getD i 0
theorem fabc_lt (i : Nat) : fabc i < 256 := by
  unfold fabc
  match i with
  | 0 => decide
  | 1 => decide
  | 2 => decide
  | i + 3 => exact (by decide : (0 : Nat) < 256)
set_option maxRecDepth 100000 in
theorem abc_digs : digs fabc 3 = [186, 120, 22, 191, 143, 1, 207, 234, 65, 65, 64, 222, 93, 174, 34, 35, 176, 3, 97, 163, 150, 23, 122, 156, 180, 16, 255, 97, 242, 0, 21, 173] := by decide +kernel
set_option maxRecDepth 100000 in
theorem none_digs : digs (fun _ => 0) 0 = [227, 176, 196, 66, 152, 252, 28, 20, 154, 251, 244, 200, 153, 111, 185, 36, 39, 174, 65, 228, 100, 155, 147, 76, 164, 149, 153, 27, 120, 82, 184, 85] := by decide +kernel
/-- the 56 letters of the document's statement -/
def f56 (i : Nat) : Nat := [97, 98, 99, 100, 98, 99, 100, 101, 99, 100, 101, 102, 100, 101, 102, 103, 101, 102, 103, 104, 102, 103, 104, 105, 103, 104, 105, 106, 104, 105, 106, 107, 105, 106, 107, 108, 106, 107, 108, 109, 107, 108, 109, 110, 108, 109, 110, 111, 109, 110, 111, 112, 110, 111, 112, 113].getD i 0
set_option maxRecDepth 100000 in
theorem f56_digs : digs f56 56 = [36, 141, 106, 97, 210, 6, 56, 184, 229, 192, 38, 147, 12, 62, 96, 57, 163, 60, 228, 89, 100, 255, 33, 103, 246, 236, 237, 212, 25, 219, 6, 193] := by decide +kernel
set_option maxRecDepth 100000 in
theorem long_digs : digs (fun _ => 97) 1000 = [65, 237, 236, 228, 45, 99, 232, 217, 191, 81, 90, 155, 166, 147, 46, 28, 32, 203, 201, 245, 165, 209, 52, 100, 90, 219, 93, 177, 185, 115, 126, 163] := by decide +kernel
end Sha
