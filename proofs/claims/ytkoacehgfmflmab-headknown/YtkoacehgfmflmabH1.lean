/- Layer 10: heads of an archive: the mathematics of texts with noughts behind them, of sums and seals. -/
import Derived.Test.YtkoacehgfmflmabKm
namespace Go.Proofs.Ytkoacehgfmflmab
set_option linter.unusedVariables false
set_option linter.unusedSimpArgs false

namespace Hd
abbrev B := List UInt8
/-- a text, and noughts behind it -/
def pad (s : B) (w : Nat) : B := s ++ List.replicate (w - s.length) 0
/-- what stands ahead of the first nought -/
def first (b : B) : B := b.takeWhile (fun c => c != 0)
theorem pad_len {s : B} {w : Nat} (h : s.length ≤ w) : (pad s w).length = w := by
  unfold pad
  rw [List.length_append, List.length_replicate]; omega
theorem takeWhile_nought : ∀ (k : Nat), (List.replicate k (0 : UInt8)).takeWhile (fun c => c != 0) = []
  | 0 => rfl
  | k + 1 => by rw [List.replicate_succ, List.takeWhile_cons_of_neg (by decide)]
theorem first_pad {s : B} (w : Nat) (h : (0 : UInt8) ∉ s) : first (pad s w) = s := by
  unfold first pad
  induction s with
  | nil => exact takeWhile_nought _
  | cons c s ih =>
    have hc : (c != 0) = true := by rw [bne_iff_ne]; intro e; rw [e] at h; exact h List.mem_cons_self
    have hs : (0 : UInt8) ∉ s := fun hm => h (List.mem_cons_of_mem _ hm)
    rw [List.cons_append, List.takeWhile_cons_of_pos (p := fun c => c != 0) hc]
    congr 1
    rw [List.takeWhile_append_of_pos (fun x hx => by rw [bne_iff_ne]; intro e; rw [e] at hx; exact hs hx), takeWhile_nought, List.append_nil]
theorem first_no (b : B) : (0 : UInt8) ∉ first b := fun h => by
  have h2 : ∀ (b : B), (0 : UInt8) ∉ b.takeWhile (fun c => c != 0) := by
    intro b
    induction b with
    | nil => simp
    | cons c b ih =>
      rw [List.takeWhile_cons]
      split
      · rename_i hc
        intro hm
        rcases List.mem_cons.1 hm with e | e
        · rw [← e] at hc; exact absurd hc (by decide)
        · exact ih e
      · simp
  exact h2 b h
/-- a number's form of W bytes -/
def nb (n W i : Nat) : Nat := if n < 8 ^ (W - 1) then (if i + 1 < W then 48 + n / 8 ^ (W - 2 - i) % 8 else 0) else (if i = 0 then 128 else n / 256 ^ (W - 1 - i) % 256)
def numB (n W : Nat) : B := (List.range W).map fun i => UInt8.ofNat (nb n W i)
theorem numB_len (n W : Nat) : (numB n W).length = W := by unfold numB; rw [List.length_map, List.length_range]
theorem nb_lt (n W i : Nat) : nb n W i < 256 := by
  unfold nb
  split
  · split <;> omega
  · split
    · decide
    · exact Nat.mod_lt _ (by decide)
theorem numB_at {n W i : Nat} (h : i < W) : (numB n W)[i]? = some (UInt8.ofNat (nb n W i)) := by
  unfold numB
  rw [List.getElem?_map, List.getElem?_range h]; rfl
theorem digits_eq : ∀ (K n m : Nat), n < 8 ^ K → m < 8 ^ K → (∀ k, k < K → n / 8 ^ k % 8 = m / 8 ^ k % 8) → n = m
  | 0, n, m, hn, hm, _ => by rw [Nat.pow_zero] at hn hm; omega
  | K + 1, n, m, hn, hm, h => by
    have h0 := h 0 (by omega)
    rw [Nat.pow_zero, Nat.div_one, Nat.div_one] at h0
    rw [Nat.pow_succ] at hn hm
    have hr : n / 8 = m / 8 := by
      refine digits_eq K (n / 8) (m / 8) (by omega) (by omega) fun k hk => ?_
      have := h (k + 1) (by omega)
      rw [Nat.pow_succ, Nat.mul_comm, ← Nat.div_div_eq_div_mul, ← Nat.div_div_eq_div_mul] at this
      exact this
    omega
theorem numB_inj {n m W : Nat} (hn : n < 8 ^ (W - 1)) (hm : m < 8 ^ (W - 1)) (h : numB n W = numB m W) : n = m := by
  refine digits_eq (W - 1) n m hn hm fun k hk => ?_
  have h1 := numB_at (n := n) (W := W) (i := W - 2 - k) (by omega)
  have h2 := numB_at (n := m) (W := W) (i := W - 2 - k) (by omega)
  rw [h, h2] at h1
  have h3 : UInt8.ofNat (nb m W (W - 2 - k)) = UInt8.ofNat (nb n W (W - 2 - k)) := Option.some.inj h1
  have h4 := congrArg UInt8.toNat h3
  rw [UInt8.toNat_ofNat', UInt8.toNat_ofNat', Nat.mod_eq_of_lt (nb_lt _ _ _), Nat.mod_eq_of_lt (nb_lt _ _ _)] at h4
  unfold nb at h4
  rw [if_pos hm, if_pos hn, if_pos (by omega), if_pos (by omega), show W - 2 - (W - 2 - k) = k by omega] at h4
  omega
/-- the sum of bytes; of a head's, eight blanks in the sum's place -/
def sumL (b : B) : Nat := (b.map UInt8.toNat).sum
def sumB (b : B) : Nat := sumL (b.take 148) + 256 + sumL (b.drop 156)
theorem sumL_bd : ∀ (b : B), sumL b ≤ 255 * b.length
  | [] => by simp [sumL]
  | c :: b => by
    have := sumL_bd b
    have hc := c.toNat_lt
    unfold sumL at this ⊢
    rw [List.map_cons, List.sum_cons, List.length_cons]; omega
theorem sumB_bd {b : B} (h : b.length ≤ 512) : sumB b < 8 ^ (7 - 1) := by
  have h1 := sumL_bd (b.take 148)
  have h2 := sumL_bd (b.drop 156)
  rw [List.length_take] at h1
  rw [List.length_drop] at h2
  unfold sumB
  show _ < 262144
  omega
/-- the sum in its place -/
def sealB (b : B) : B := b.take 148 ++ (numB (sumB b) 7 ++ (32 :: b.drop 156))
theorem seal_take {b : B} (h : 148 ≤ b.length) : (sealB b).take 148 = b.take 148 := by
  unfold sealB
  rw [List.take_append_of_le_length (by rw [List.length_take]; omega), List.take_take, Nat.min_self]
theorem seal_mid {b : B} (h : 148 ≤ b.length) : (sealB b).drop 148 = numB (sumB b) 7 ++ (32 :: b.drop 156) := by
  unfold sealB
  rw [List.drop_append_of_le_length (by rw [List.length_take]; omega), List.drop_eq_nil_of_le (by rw [List.length_take]; omega), List.nil_append]
theorem seal_sum {b : B} (h : 148 ≤ b.length) : ((sealB b).drop 148).take 7 = numB (sumB b) 7 := by
  rw [seal_mid h, List.take_append_of_le_length (by rw [numB_len]; omega), List.take_of_length_le (by rw [numB_len]; omega)]
theorem seal_drop {b : B} (h : 148 ≤ b.length) : (sealB b).drop 156 = b.drop 156 := by
  have : (sealB b).drop 156 = ((sealB b).drop 148).drop 8 := by rw [List.drop_drop]
  rw [this, seal_mid h, show (8 : Nat) = (numB (sumB b) 7).length + 1 by rw [numB_len], ← List.drop_drop, List.drop_left]; rfl
theorem seal_len {b : B} (h : 156 ≤ b.length) : (sealB b).length = b.length := by
  unfold sealB
  rw [List.length_append, List.length_append, List.length_cons, numB_len, List.length_take, List.length_drop]; omega
theorem sum_seal {b : B} (h : 148 ≤ b.length) : sumB (sealB b) = sumB b := by unfold sumB; rw [seal_take h, seal_drop h]
theorem seal_seal {b : B} (h : 156 ≤ b.length) : sealB (sealB b) = sealB b := by
  have e : sealB (sealB b) = (sealB b).take 148 ++ (numB (sumB (sealB b)) 7 ++ (32 :: (sealB b).drop 156)) := rfl
  rw [e, sum_seal (by omega), seal_take (by omega), seal_drop (by omega)]; rfl
theorem sumL_set : ∀ (b : B) (i : Nat) (c x : UInt8), b[i]? = some x → sumL (b.set i c) + x.toNat = sumL b + c.toNat
  | [], i, c, x, h => by simp at h
  | y :: b, 0, c, x, h => by
    have : y = x := Option.some.inj h
    subst this
    unfold sumL
    rw [List.set_cons_zero, List.map_cons, List.map_cons, List.sum_cons, List.sum_cons]; omega
  | y :: b, i + 1, c, x, h => by
    have := sumL_set b i c x h
    unfold sumL at this ⊢
    rw [List.set_cons_succ, List.map_cons, List.map_cons, List.sum_cons, List.sum_cons]; omega
/-- a byte that is another is seen -/
theorem seal_set {b : B} {i : Nat} {c x : UInt8} (hs : sealB b = b) (hl : b.length = 512) (hx : b[i]? = some x) (hc : x ≠ c) : sealB (b.set i c) ≠ b.set i c := by
  intro h
  have hl2 : (b.set i c).length = 512 := by rw [List.length_set]; exact hl
  have hne : x.toNat ≠ c.toNat := fun e => hc (UInt8.toNat_inj.1 e)
  have key : (b.drop 148).take 7 = ((b.set i c).drop 148).take 7 → sumB b = sumB (b.set i c) := fun e => by
    have e1 := seal_sum (b := b) (by omega)
    have e2 := seal_sum (b := b.set i c) (by omega)
    rw [hs] at e1
    rw [h] at e2
    exact numB_inj (sumB_bd (by omega)) (sumB_bd (by omega)) (by rw [← e1, ← e2, e])
  rcases Nat.lt_or_ge i 148 with h1 | h1
  · have k := key (by rw [List.drop_set_of_lt h1])
    have hd : (b.set i c).drop 156 = b.drop 156 := List.drop_set_of_lt (by omega)
    have ht : (b.set i c).take 148 = (b.take 148).set i c := by rw [List.take_set]
    unfold sumB at k
    rw [hd, ht] at k
    have := sumL_set (b.take 148) i c x (by rw [List.getElem?_take, if_pos h1]; exact hx)
    omega
  rcases Nat.lt_or_ge i 156 with h2 | h2
  · have hd : (b.set i c).drop 156 = b.drop 156 := List.drop_set_of_lt (by omega)
    have ht : (b.set i c).take 148 = b.take 148 := List.take_set_of_le (by omega)
    have e : sealB (b.set i c) = sealB b := by unfold sealB sumB; rw [hd, ht]
    rw [e, hs] at h
    have := congrArg (fun l : B => l[i]?) h
    simp only [List.getElem?_set_self (show i < b.length by omega)] at this
    rw [hx] at this
    exact hc (Option.some.inj this)
  · have k := key (by
      rw [List.drop_set, if_neg (by omega), List.take_set_of_le (by omega)])
    have ht : (b.set i c).take 148 = b.take 148 := List.take_set_of_le (by omega)
    have hd : (b.set i c).drop 156 = (b.drop 156).set (i - 156) c := by rw [List.drop_set, if_neg (by omega)]
    unfold sumB at k
    rw [hd, ht] at k
    have := sumL_set (b.drop 156) (i - 156) c x (by rw [List.getElem?_drop, show 156 + (i - 156) = i by omega]; exact hx)
    omega
end Hd
end Go.Proofs.Ytkoacehgfmflmab
