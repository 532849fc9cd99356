/- Texts of mine, put together. -/
import Derived.Test.YtldkhbkgmiicbaaGreatDoorBu1
import Derived.Test.YtldkhbkgmiicbaaGreatDoorBu2

/- Layer 10: heads of an archive: the mathematics of texts with noughts behind them, of sums and seals. -/
namespace Go.Proofs.YtldkhbkgmiicbaaGreatDoor
set_option linter.unusedVariables false
set_option linter.unusedSimpArgs false

namespace Hd
abbrev B := List UInt8
/-- a text, and noughts behind it -/
def pad (s : B) (w : Nat) : B := s ++ List.replicate (w - s.length) 0
/-- what stands ahead of the first nought -/
def first (b : B) : B := b.takeWhile (fun c => c != 0)
theorem pad_len {s : B} {w : Nat} (h : s.length ≤ w) : (pad s w).length = w := by
  unfold pad
  rw [List.length_append, List.length_replicate]; omega
theorem takeWhile_nought : ∀ (k : Nat), (List.replicate k (0 : UInt8)).takeWhile (fun c => c != 0) = []
  | 0 => rfl
  | k + 1 => by rw [List.replicate_succ, List.takeWhile_cons_of_neg (by decide)]
theorem first_pad {s : B} (w : Nat) (h : (0 : UInt8) ∉ s) : first (pad s w) = s := by
  unfold first pad
  induction s with
  | nil => exact takeWhile_nought _
  | cons c s ih =>
    have hc : (c != 0) = true := by rw [bne_iff_ne]; intro e; rw [e] at h; exact h List.mem_cons_self
    have hs : (0 : UInt8) ∉ s := fun hm => h (List.mem_cons_of_mem _ hm)
    rw [List.cons_append, List.takeWhile_cons_of_pos (p := fun c => c != 0) hc]
    congr 1
    rw [List.takeWhile_append_of_pos (fun x hx => by rw [bne_iff_ne]; intro e; rw [e] at hx; exact hs hx), takeWhile_nought, List.append_nil]
theorem first_no (b : B) : (0 : UInt8) ∉ first b := fun h => by
  have h2 : ∀ (b : B), (0 : UInt8) ∉ b.takeWhile (fun c => c != 0) := by
    intro b
    induction b with
    | nil => simp
    | cons c b ih =>
      rw [List.takeWhile_cons]
      split
      · rename_i hc
        intro hm
        rcases List.mem_cons.1 hm with e | e
        · rw [← e] at hc; exact absurd hc (by decide)
        · exact ih e
      · simp
  exact h2 b h
/-- a number's form of W bytes -/
def nb (n W i : Nat) : Nat := if n < 8 ^ (W - 1) then (if i + 1 < W then 48 + n / 8 ^ (W - 2 - i) % 8 else 0) else (if i = 0 then 128 else n / 256 ^ (W - 1 - i) % 256)
def numB (n W : Nat) : B := (List.range W).map fun i => UInt8.ofNat (nb n W i)
theorem numB_len (n W : Nat) : (numB n W).length = W := by unfold numB; rw [List.length_map, List.length_range]
theorem nb_lt (n W i : Nat) : nb n W i < 256 := by
  unfold nb
  split
  · split <;> omega
  · split
    · decide
    · exact Nat.mod_lt _ (by decide)
theorem numB_at {n W i : Nat} (h : i < W) : (numB n W)[i]? = some (UInt8.ofNat (nb n W i)) := by
  unfold numB
  rw [List.getElem?_map, List.getElem?_range h]; rfl
theorem digits_eq : ∀ (K n m : Nat), n < 8 ^ K → m < 8 ^ K → (∀ k, k < K → n / 8 ^ k % 8 = m / 8 ^ k % 8) → n = m
  | 0, n, m, hn, hm, _ => by rw [Nat.pow_zero] at hn hm; omega
  | K + 1, n, m, hn, hm, h => by
    have h0 := h 0 (by omega)
    rw [Nat.pow_zero, Nat.div_one, Nat.div_one] at h0
    rw [Nat.pow_succ] at hn hm
    have hr : n / 8 = m / 8 := by
      refine digits_eq K (n / 8) (m / 8) (by omega) (by omega) fun k hk => ?_
      have := h (k + 1) (by omega)
      rw [Nat.pow_succ, Nat.mul_comm, ← Nat.div_div_eq_div_mul, ← Nat.div_div_eq_div_mul] at this
      exact this
    omega
theorem numB_inj {n m W : Nat} (hn : n < 8 ^ (W - 1)) (hm : m < 8 ^ (W - 1)) (h : numB n W = numB m W) : n = m := by
  refine digits_eq (W - 1) n m hn hm fun k hk => ?_
  have h1 := numB_at (n := n) (W := W) (i := W - 2 - k) (by omega)
  have h2 := numB_at (n := m) (W := W) (i := W - 2 - k) (by omega)
  rw [h, h2] at h1
  have h3 : UInt8.ofNat (nb m W (W - 2 - k)) = UInt8.ofNat (nb n W (W - 2 - k)) := Option.some.inj h1
  have h4 := congrArg UInt8.toNat h3
  rw [UInt8.toNat_ofNat', UInt8.toNat_ofNat', Nat.mod_eq_of_lt (nb_lt _ _ _), Nat.mod_eq_of_lt (nb_lt _ _ _)] at h4
  unfold nb at h4
  rw [if_pos hm, if_pos hn, if_pos (by omega), if_pos (by omega), show W - 2 - (W - 2 - k) = k by omega] at h4
  omega
/-- the sum of bytes; of a head's, eight blanks in the sum's place -/
def sumL (b : B) : Nat := (b.map UInt8.toNat).sum
def sumB (b : B) : Nat := sumL (b.take 148) + 256 + sumL (b.drop 156)
theorem sumL_bd : ∀ (b : B), sumL b ≤ 255 * b.length
  | [] => by simp [sumL]
  | c :: b => by
    have := sumL_bd b
    have hc := c.toNat_lt
    unfold sumL at this ⊢
    rw [List.map_cons, List.sum_cons, List.length_cons]; omega
theorem sumB_bd {b : B} (h : b.length ≤ 512) : sumB b < 8 ^ (7 - 1) := by
  have h1 := sumL_bd (b.take 148)
  have h2 := sumL_bd (b.drop 156)
  rw [List.length_take] at h1
  rw [List.length_drop] at h2
  unfold sumB
  show _ < 262144
  omega
/-- the sum in its place -/
def sealB (b : B) : B := b.take 148 ++ (numB (sumB b) 7 ++ (32 :: b.drop 156))
theorem seal_take {b : B} (h : 148 ≤ b.length) : (sealB b).take 148 = b.take 148 := by
  unfold sealB
  rw [List.take_append_of_le_length (by rw [List.length_take]; omega), List.take_take, Nat.min_self]
theorem seal_mid {b : B} (h : 148 ≤ b.length) : (sealB b).drop 148 = numB (sumB b) 7 ++ (32 :: b.drop 156) := by
  unfold sealB
  rw [List.drop_append_of_le_length (by rw [List.length_take]; omega), List.drop_eq_nil_of_le (by rw [List.length_take]; omega), List.nil_append]
theorem seal_sum {b : B} (h : 148 ≤ b.length) : ((sealB b).drop 148).take 7 = numB (sumB b) 7 := by
  rw [seal_mid h, List.take_append_of_le_length (by rw [numB_len]; omega), List.take_of_length_le (by rw [numB_len]; omega)]
theorem seal_drop {b : B} (h : 148 ≤ b.length) : (sealB b).drop 156 = b.drop 156 := by
  have : (sealB b).drop 156 = ((sealB b).drop 148).drop 8 := by rw [List.drop_drop]
  rw [this, seal_mid h, show (8 : Nat) = (numB (sumB b) 7).length + 1 by rw [numB_len], ← List.drop_drop, List.drop_left]; rfl
theorem seal_len {b : B} (h : 156 ≤ b.length) : (sealB b).length = b.length := by
  unfold sealB
  rw [List.length_append, List.length_append, List.length_cons, numB_len, List.length_take, List.length_drop]; omega
theorem sum_seal {b : B} (h : 148 ≤ b.length) : sumB (sealB b) = sumB b := by unfold sumB; rw [seal_take h, seal_drop h]
theorem seal_seal {b : B} (h : 156 ≤ b.length) : sealB (sealB b) = sealB b := by
  have e : sealB (sealB b) = (sealB b).take 148 ++ (numB (sumB (sealB b)) 7 ++ (32 :: (sealB b).drop 156)) := rfl
  rw [e, sum_seal (by omega), seal_take (by omega), seal_drop (by omega)]; rfl
theorem sumL_set : ∀ (b : B) (i : Nat) (c x : UInt8), b[i]? = some x → sumL (b.set i c) + x.toNat = sumL b + c.toNat
  | [], i, c, x, h => by simp at h
  | y :: b, 0, c, x, h => by
    have : y = x := Option.some.inj h
    subst this
    unfold sumL
    rw [List.set_cons_zero, List.map_cons, List.map_cons, List.sum_cons, List.sum_cons]; omega
  | y :: b, i + 1, c, x, h => by
    have := sumL_set b i c x h
    unfold sumL at this ⊢
    rw [List.set_cons_succ, List.map_cons, List.map_cons, List.sum_cons, List.sum_cons]; omega
/-- a byte that is another is seen -/
theorem seal_set {b : B} {i : Nat} {c x : UInt8} (hs : sealB b = b) (hl : b.length = 512) (hx : b[i]? = some x) (hc : x ≠ c) : sealB (b.set i c) ≠ b.set i c := by
  intro h
  have hl2 : (b.set i c).length = 512 := by rw [List.length_set]; exact hl
  have hne : x.toNat ≠ c.toNat := fun e => hc (UInt8.toNat_inj.1 e)
  have key : (b.drop 148).take 7 = ((b.set i c).drop 148).take 7 → sumB b = sumB (b.set i c) := fun e => by
    have e1 := seal_sum (b := b) (by omega)
    have e2 := seal_sum (b := b.set i c) (by omega)
    rw [hs] at e1
    rw [h] at e2
    exact numB_inj (sumB_bd (by omega)) (sumB_bd (by omega)) (by rw [← e1, ← e2, e])
  rcases Nat.lt_or_ge i 148 with h1 | h1
  · have k := key (by rw [List.drop_set_of_lt h1])
    have hd : (b.set i c).drop 156 = b.drop 156 := List.drop_set_of_lt (by omega)
    have ht : (b.set i c).take 148 = (b.take 148).set i c := by rw [List.take_set]
    unfold sumB at k
    rw [hd, ht] at k
    have := sumL_set (b.take 148) i c x (by rw [List.getElem?_take, if_pos h1]; exact hx)
    omega
  rcases Nat.lt_or_ge i 156 with h2 | h2
  · have hd : (b.set i c).drop 156 = b.drop 156 := List.drop_set_of_lt (by omega)
    have ht : (b.set i c).take 148 = b.take 148 := List.take_set_of_le (by omega)
    have e : sealB (b.set i c) = sealB b := by unfold sealB sumB; rw [hd, ht]
    rw [e, hs] at h
    have := congrArg (fun l : B => l[i]?) h
    simp only [List.getElem?_set_self (show i < b.length by omega)] at this
    rw [hx] at this
    exact hc (Option.some.inj this)
  · have k := key (by
      rw [List.drop_set, if_neg (by omega), List.take_set_of_le (by omega)])
    have ht : (b.set i c).take 148 = b.take 148 := List.take_set_of_le (by omega)
    have hd : (b.set i c).drop 156 = (b.drop 156).set (i - 156) c := by rw [List.drop_set, if_neg (by omega)]
    unfold sumB at k
    rw [hd, ht] at k
    have := sumL_set (b.drop 156) (i - 156) c x (by rw [List.getElem?_drop, show 156 + (i - 156) = i by omega]; exact hx)
    omega
end Hd
end Go.Proofs.YtldkhbkgmiicbaaGreatDoor

/- Layer 10: a head's bytes: their parts, what is read of them. -/
namespace Go.Proofs.YtldkhbkgmiicbaaGreatDoor
set_option linter.unusedVariables false
set_option linter.unusedSimpArgs false

namespace Hd
theorem digits_eqB {c : Nat} (hc : 0 < c) : ∀ (K n m : Nat), n < c ^ K → m < c ^ K → (∀ k, k < K → n / c ^ k % c = m / c ^ k % c) → n = m
  | 0, n, m, hn, hm, _ => by rw [Nat.pow_zero] at hn hm; omega
  | K + 1, n, m, hn, hm, h => by
    have h0 := h 0 (by omega)
    rw [Nat.pow_zero, Nat.div_one, Nat.div_one] at h0
    rw [Nat.pow_succ] at hn hm
    have hr : n / c = m / c := by
      refine digits_eqB hc K (n / c) (m / c) (Nat.div_lt_of_lt_mul (by rw [Nat.mul_comm]; exact hn)) (Nat.div_lt_of_lt_mul (by rw [Nat.mul_comm]; exact hm)) fun k hk => ?_
      have := h (k + 1) (by omega)
      rw [Nat.pow_succ, Nat.mul_comm, ← Nat.div_div_eq_div_mul, ← Nat.div_div_eq_div_mul] at this
      exact this
    rw [← Nat.div_add_mod n c, ← Nat.div_add_mod m c, hr, h0]
theorem nb_of_eq {n m W i : Nat} (hi : i < W) (h : numB n W = numB m W) : nb n W i = nb m W i := by
  have h1 := numB_at (n := n) (W := W) (i := i) hi
  have h2 := numB_at (n := m) (W := W) (i := i) hi
  rw [h, h2] at h1
  have h4 := congrArg UInt8.toNat (Option.some.inj h1)
  rw [UInt8.toNat_ofNat', UInt8.toNat_ofNat', Nat.mod_eq_of_lt (nb_lt _ _ _), Nat.mod_eq_of_lt (nb_lt _ _ _)] at h4
  exact h4.symm
theorem numB_one {n m W : Nat} (hW : 2 ≤ W) (hn : n < 8 ^ (W - 1) ∨ n < 256 ^ (W - 1)) (hm : m < 8 ^ (W - 1) ∨ m < 256 ^ (W - 1)) (h : numB n W = numB m W) : n = m := by
  have h0 := nb_of_eq (i := 0) (by omega) h
  by_cases a : n < 8 ^ (W - 1)
  · by_cases b : m < 8 ^ (W - 1)
    · exact numB_inj a b h
    · unfold nb at h0
      rw [if_pos a, if_pos (by omega), if_neg b, if_pos rfl] at h0
      omega
  · by_cases b : m < 8 ^ (W - 1)
    · unfold nb at h0
      rw [if_neg a, if_pos rfl, if_pos b, if_pos (by omega)] at h0
      omega
    · have hn2 := hn.resolve_left a
      have hm2 := hm.resolve_left b
      refine digits_eqB (c := 256) (by decide) (W - 1) n m hn2 hm2 fun k hk => ?_
      have := nb_of_eq (i := W - 1 - k) (by omega) h
      unfold nb at this
      rw [if_neg a, if_neg b, if_neg (by omega), if_neg (by omega), show W - 1 - (W - 1 - k) = k by omega] at this
      exact this
theorem slice_flat : ∀ (L : List B) (i : Nat) (p : B), L[i]? = some p → ((L.flatten.drop (((L.take i).map List.length).sum)).take p.length) = p
  | [], i, p, h => by simp at h
  | x :: L, 0, p, h => by
    have : x = p := Option.some.inj h
    subst this
    simp
  | x :: L, i + 1, p, h => by
    have := slice_flat L i p h
    rw [List.take_succ_cons, List.map_cons, List.sum_cons, List.flatten_cons, ← List.drop_drop, List.drop_left]
    exact this
/-- a head -/
structure Hdr where
  name : B
  mode : Int
  size : Int
  time : Int
  typ : UInt8
  link : B
  pre : B
def ustar : B := [117, 115, 116, 97, 114, 0, 48, 48]
def nul (s : B) : Bool := s.any (fun c => c == 0)
theorem nul_no {s : B} (h : nul s = false) : (0 : UInt8) ∉ s := fun hm => by
  have : nul s = true := List.any_eq_true.2 ⟨0, hm, by decide⟩
  rw [h] at this; exact absurd this (by decide)
def may (h : Hdr) : Nat :=
  if h.typ ≠ 48 ∧ h.typ ≠ 49 ∧ h.typ ≠ 50 ∧ h.typ ≠ 53 ∧ h.typ ≠ 120 then 102
  else if h.name.length > 100 ∨ h.link.length > 100 ∨ h.pre.length > 155 then 2
  else if nul h.name = true ∨ nul h.link = true ∨ nul h.pre = true then 82
  else if h.mode < 0 ∨ h.mode > 4095 ∨ h.size < 0 ∨ h.size > 8589934591 ∨ h.time < 0 ∨ h.time > 1099511627776 then 1
  else 0
structure Good (h : Hdr) : Prop where
  typ : h.typ = 48 ∨ h.typ = 49 ∨ h.typ = 50 ∨ h.typ = 53 ∨ h.typ = 120
  name : h.name.length ≤ 100
  link : h.link.length ≤ 100
  pre : h.pre.length ≤ 155
  nname : (0 : UInt8) ∉ h.name
  nlink : (0 : UInt8) ∉ h.link
  npre : (0 : UInt8) ∉ h.pre
  mode : 0 ≤ h.mode ∧ h.mode ≤ 4095
  size : 0 ≤ h.size ∧ h.size ≤ 8589934591
  time : 0 ≤ h.time ∧ h.time ≤ 1099511627776
theorem may_good {h : Hdr} (e : may h = 0) : Good h := by
  unfold may at e
  split at e
  · exact absurd e (by decide)
  split at e
  · exact absurd e (by decide)
  split at e
  · exact absurd e (by decide)
  split at e
  · exact absurd e (by decide)
  rename_i h1 h2 h3 h4
  have n1 : nul h.name = false := by cases hx : nul h.name with | false => rfl | true => exact absurd (.inl hx) h3
  have n2 : nul h.link = false := by cases hx : nul h.link with | false => rfl | true => exact absurd (.inr (.inl hx)) h3
  have n3 : nul h.pre = false := by cases hx : nul h.pre with | false => rfl | true => exact absurd (.inr (.inr hx)) h3
  refine ⟨?_, by omega, by omega, by omega, nul_no n1, nul_no n2, nul_no n3, by omega, by omega, by omega⟩
  by_cases a1 : h.typ = 48
  · exact .inl a1
  by_cases a2 : h.typ = 49
  · exact .inr (.inl a2)
  by_cases a3 : h.typ = 50
  · exact .inr (.inr (.inl a3))
  by_cases a4 : h.typ = 53
  · exact .inr (.inr (.inr (.inl a4)))
  by_cases a5 : h.typ = 120
  · exact .inr (.inr (.inr (.inr a5)))
  exact absurd ⟨a1, a2, a3, a4, a5⟩ h1
/-- what stands ahead of the sum, and behind it -/
def ahead (h : Hdr) : List B := [pad h.name 100, numB h.mode.toNat 8, numB 0 8, numB 0 8, numB h.size.toNat 12, numB h.time.toNat 12]
def after (h : Hdr) : List B := [[h.typ], pad h.link 100, pad ustar 8, pad [] 64, numB 0 8, numB 0 8, pad h.pre 155, pad [] 12]
/-- a head's bytes ahead of sealing, and sealed -/
def rawB (h : Hdr) : B := (ahead h).flatten ++ (pad [] 8 ++ (after h).flatten)
def layB (h : Hdr) : B := sealB (rawB h)
theorem ahead_len {h : Hdr} (g : Good h) : (ahead h).flatten.length = 148 := by
  unfold ahead
  simp only [List.flatten_cons, List.flatten_nil, List.length_append, List.length_nil, numB_len, pad_len g.name]
theorem after_len {h : Hdr} (g : Good h) : (after h).flatten.length = 356 := by
  unfold after
  simp only [List.flatten_cons, List.flatten_nil, List.length_append, List.length_nil, List.length_cons, numB_len, pad_len g.link, pad_len g.pre, pad_len (show ustar.length ≤ 8 by decide), pad_len (show ([] : B).length ≤ 64 by decide), pad_len (show ([] : B).length ≤ 12 by decide)]
theorem raw_len {h : Hdr} (g : Good h) : (rawB h).length = 512 := by
  unfold rawB
  rw [List.length_append, List.length_append, ahead_len g, after_len g, pad_len (by decide)]
theorem raw_take {h : Hdr} (g : Good h) : (rawB h).take 148 = (ahead h).flatten := by
  unfold rawB
  rw [List.take_append_of_le_length (by rw [ahead_len g]; omega), List.take_of_length_le (by rw [ahead_len g]; omega)]
theorem raw_drop {h : Hdr} (g : Good h) : (rawB h).drop 156 = (after h).flatten := by
  unfold rawB
  rw [← List.append_assoc, List.drop_append_of_le_length (by rw [List.length_append, ahead_len g, pad_len (by decide)]; omega), List.drop_eq_nil_of_le (by rw [List.length_append, ahead_len g, pad_len (by decide)]; omega), List.nil_append]
theorem lay_len {h : Hdr} (g : Good h) : (layB h).length = 512 := by unfold layB; rw [seal_len (by rw [raw_len g]; omega), raw_len g]
theorem lay_sealed {h : Hdr} (g : Good h) : sealB (layB h) = layB h := by unfold layB; exact seal_seal (by rw [raw_len g]; omega)
theorem lay_take {h : Hdr} (g : Good h) : (layB h).take 148 = (ahead h).flatten := by unfold layB; rw [seal_take (by rw [raw_len g]; omega), raw_take g]
theorem lay_drop {h : Hdr} (g : Good h) : (layB h).drop 156 = (after h).flatten := by unfold layB; rw [seal_drop (by rw [raw_len g]; omega), raw_drop g]
theorem slice_ahead {h : Hdr} (g : Good h) {i : Nat} {p : B} (hp : (ahead h)[i]? = some p) (o : Nat) (ho : (((ahead h).take i).map List.length).sum = o) (hle : o + p.length ≤ 148) : ((layB h).drop o).take p.length = p := by
  have e := slice_flat (ahead h) i p hp
  rw [ho, ← lay_take g, List.drop_take, List.take_take, Nat.min_eq_left (by omega)] at e
  exact e
theorem slice_after {h : Hdr} (g : Good h) {i : Nat} {p : B} (hp : (after h)[i]? = some p) (o : Nat) (ho : (((after h).take i).map List.length).sum = o) : ((layB h).drop (156 + o)).take p.length = p := by
  have e := slice_flat (after h) i p hp
  rw [ho, ← lay_drop g, List.drop_drop] at e
  exact e
theorem lay_name {h : Hdr} (g : Good h) : (layB h).take 100 = pad h.name 100 := by
  have e := slice_ahead g (i := 0) (p := pad h.name 100) rfl 0 rfl (by rw [pad_len g.name]; omega)
  rw [pad_len g.name] at e
  exact e
theorem lay_mode {h : Hdr} (g : Good h) : ((layB h).drop 100).take 8 = numB h.mode.toNat 8 := by
  have e := slice_ahead g (i := 1) (p := numB h.mode.toNat 8) rfl 100 (by simp [ahead, pad_len g.name]) (by rw [numB_len]; omega)
  rw [numB_len] at e
  exact e
theorem lay_size {h : Hdr} (g : Good h) : ((layB h).drop 124).take 12 = numB h.size.toNat 12 := by
  have e := slice_ahead g (i := 4) (p := numB h.size.toNat 12) rfl 124 (by simp [ahead, pad_len g.name, numB_len]) (by rw [numB_len]; omega)
  rw [numB_len] at e
  exact e
theorem lay_time {h : Hdr} (g : Good h) : ((layB h).drop 136).take 12 = numB h.time.toNat 12 := by
  have e := slice_ahead g (i := 5) (p := numB h.time.toNat 12) rfl 136 (by simp [ahead, pad_len g.name, numB_len]) (by rw [numB_len]; omega)
  rw [numB_len] at e
  exact e
theorem lay_typ {h : Hdr} (g : Good h) : (layB h)[156]? = some h.typ := by
  have e : ((layB h).drop 156)[0]? = some h.typ := by rw [lay_drop g]; rfl
  rw [List.getElem?_drop] at e
  exact e
theorem lay_link {h : Hdr} (g : Good h) : ((layB h).drop 157).take 100 = pad h.link 100 := by
  have e := slice_after g (i := 1) (p := pad h.link 100) rfl 1 (by simp [after])
  rw [pad_len g.link] at e
  exact e
theorem lay_ustar {h : Hdr} (g : Good h) : ((layB h).drop 257).take 8 = ustar := by
  have e := slice_after g (i := 2) (p := pad ustar 8) rfl 101 (by simp [after, pad_len g.link])
  exact e
theorem lay_pre {h : Hdr} (g : Good h) : ((layB h).drop 345).take 155 = pad h.pre 155 := by
  have e := slice_after g (i := 6) (p := pad h.pre 155) rfl 189 (by simp [after, pad_len g.link, numB_len, pad_len (show ustar.length ≤ 8 by decide), pad_len (show ([] : B).length ≤ 64 by decide)])
  rw [pad_len g.pre] at e
  exact e
/-- two heads with the same bytes are one -/
theorem lay_inj {h k : Hdr} (g : Good h) (f : Good k) (e : layB h = layB k) : h = k := by
  have e1 : h.name = k.name := by
    have := (lay_name g).symm.trans ((congrArg (List.take 100) e).trans (lay_name f))
    rw [← first_pad 100 g.nname, this, first_pad 100 f.nname]
  have e2 : h.link = k.link := by
    have := (lay_link g).symm.trans ((congrArg (fun l : B => (l.drop 157).take 100) e).trans (lay_link f))
    rw [← first_pad 100 g.nlink, this, first_pad 100 f.nlink]
  have e3 : h.pre = k.pre := by
    have := (lay_pre g).symm.trans ((congrArg (fun l : B => (l.drop 345).take 155) e).trans (lay_pre f))
    rw [← first_pad 155 g.npre, this, first_pad 155 f.npre]
  have e4 : h.typ = k.typ := by
    have := (lay_typ g).symm.trans ((congrArg (fun l : B => l[156]?) e).trans (lay_typ f))
    exact Option.some.inj this
  have e5 : h.mode = k.mode := by
    have := (lay_mode g).symm.trans ((congrArg (fun l : B => (l.drop 100).take 8) e).trans (lay_mode f))
    have := numB_one (by decide) (.inl (by have := g.mode; show _ < 2097152; omega)) (.inl (by have := f.mode; show _ < 2097152; omega)) this
    have := g.mode; have := f.mode; omega
  have e6 : h.size = k.size := by
    have := (lay_size g).symm.trans ((congrArg (fun l : B => (l.drop 124).take 12) e).trans (lay_size f))
    have := numB_one (by decide) (.inl (by have := g.size; show _ < 8589934592; omega)) (.inl (by have := f.size; show _ < 8589934592; omega)) this
    have := g.size; have := f.size; omega
  have e7 : h.time = k.time := by
    have := (lay_time g).symm.trans ((congrArg (fun l : B => (l.drop 136).take 12) e).trans (lay_time f))
    have := numB_one (by decide) (.inr (by have := g.time; show _ < 309485009821345068724781056; omega)) (.inr (by have := f.time; show _ < 309485009821345068724781056; omega)) this
    have := g.time; have := f.time; omega
  cases h; cases k
  simp only at e1 e2 e3 e4 e5 e6 e7
  subst e1 e2 e3 e4 e5 e6 e7
  rfl
end Hd
end Go.Proofs.YtldkhbkgmiicbaaGreatDoor

/- Layer 10: what is read of bytes, as a relation; the order of bytes and the sum. -/
namespace Go.Proofs.YtldkhbkgmiicbaaGreatDoor
set_option linter.unusedVariables false
set_option linter.unusedSimpArgs false

namespace Hd
theorem good_may {h : Hdr} (g : Good h) : may h = 0 := by
  have n1 : ∀ {s : B}, (0 : UInt8) ∉ s → nul s = false := fun {s} hs => by
    cases hx : nul s with
    | false => rfl
    | true =>
      obtain ⟨c, hc, he⟩ := List.any_eq_true.1 hx
      rw [eq_of_beq he] at hc
      exact absurd hc hs
  unfold may
  rw [if_neg, if_neg, if_neg, if_neg]
  · have := g.mode; have := g.size; have := g.time; omega
  · rw [n1 g.nname, n1 g.nlink, n1 g.npre]; simp
  · have := g.name; have := g.link; have := g.pre; omega
  · rintro ⟨a, b, c, d, e⟩
    rcases g.typ with h | h | h | h | h
    · exact a h
    · exact b h
    · exact c h
    · exact d h
    · exact e h
theorem sumB_set {b : B} {i : Nat} {c x : UInt8} (hl : b.length = 512) (hx : b[i]? = some x) (hi : i < 148 ∨ 156 ≤ i) : sumB (b.set i c) + x.toNat = sumB b + c.toNat := by
  rcases hi with h | h
  · have hd : (b.set i c).drop 156 = b.drop 156 := List.drop_set_of_lt (by omega)
    have ht : (b.set i c).take 148 = (b.take 148).set i c := by rw [List.take_set]
    have := sumL_set (b.take 148) i c x (by rw [List.getElem?_take, if_pos h]; exact hx)
    unfold sumB
    rw [hd, ht]
    omega
  · have ht : (b.set i c).take 148 = b.take 148 := List.take_set_of_le (by omega)
    have hd : (b.set i c).drop 156 = (b.drop 156).set (i - 156) c := by rw [List.drop_set, if_neg (by omega)]
    have := sumL_set (b.drop 156) (i - 156) c x (by rw [List.getElem?_drop, show 156 + (i - 156) = i by omega]; exact hx)
    unfold sumB
    rw [hd, ht]
    omega
/-- two bytes change places: the sum stays -/
theorem sumB_swap {b : B} {i k : Nat} {x y : UInt8} (hl : b.length = 512) (hx : b[i]? = some x) (hy : b[k]? = some y) (hi : i < 148 ∨ 156 ≤ i) (hk : k < 148 ∨ 156 ≤ k) : sumB ((b.set i y).set k x) = sumB b := by
  have h1 := sumB_set (c := y) hl hx hi
  have hy2 : (b.set i y)[k]? = some y := by
    by_cases e : i = k
    · subst e
      rw [List.getElem?_set_self (by have := (List.getElem?_eq_some_iff.1 hx).1; exact this)]
    · rw [List.getElem?_set_ne e]; exact hy
  have h2 := sumB_set (b := b.set i y) (c := x) (by rw [List.length_set]; exact hl) hy2 hk
  omega
def none : Hdr := ⟨[], 0, 0, 0, 0, [], []⟩
/-- what is read of bytes: the head, and what is wrong -/
structure Reads (b : B) (h : Hdr) (e : Nat) : Prop where
  len : b.length ≠ 512 → h = none ∧ e = 1
  word : b.length = 512 → (b.drop 257).take 8 ≠ ustar → h = none ∧ e = 100
  sum : b.length = 512 → (b.drop 257).take 8 = ustar → sealB b ≠ b → h = none ∧ e = 101
  yes : b.length = 512 → (b.drop 257).take 8 = ustar → sealB b = b → ∀ k, Good k → layB k = b → h = k ∧ e = 0
  no : b.length = 512 → (b.drop 257).take 8 = ustar → sealB b = b → (∀ k, Good k → layB k ≠ b) → h = none ∧ e = 100
theorem reads_cases (b : B) : b.length ≠ 512 ∨ (b.length = 512 ∧ (b.drop 257).take 8 ≠ ustar) ∨ (b.length = 512 ∧ (b.drop 257).take 8 = ustar ∧ sealB b ≠ b) ∨ (b.length = 512 ∧ (b.drop 257).take 8 = ustar ∧ sealB b = b ∧ ∃ k, Good k ∧ layB k = b) ∨ (b.length = 512 ∧ (b.drop 257).take 8 = ustar ∧ sealB b = b ∧ ∀ k, Good k → layB k ≠ b) := by
  by_cases h1 : b.length = 512
  · by_cases h2 : (b.drop 257).take 8 = ustar
    · by_cases h3 : sealB b = b
      · by_cases h4 : ∃ k, Good k ∧ layB k = b
        · exact .inr (.inr (.inr (.inl ⟨h1, h2, h3, h4⟩)))
        · exact .inr (.inr (.inr (.inr ⟨h1, h2, h3, fun k g e => h4 ⟨k, g, e⟩⟩)))
      · exact .inr (.inr (.inl ⟨h1, h2, h3⟩))
    · exact .inr (.inl ⟨h1, h2⟩)
  · exact .inl h1
theorem reads_unique {b : B} {h k : Hdr} {e f : Nat} (r : Reads b h e) (s : Reads b k f) : h = k ∧ e = f := by
  rcases reads_cases b with a | ⟨a, c⟩ | ⟨a, c, d⟩ | ⟨a, c, d, m, g, em⟩ | ⟨a, c, d, m⟩
  · obtain ⟨rfl, rfl⟩ := r.len a; obtain ⟨rfl, rfl⟩ := s.len a; exact ⟨rfl, rfl⟩
  · obtain ⟨rfl, rfl⟩ := r.word a c; obtain ⟨rfl, rfl⟩ := s.word a c; exact ⟨rfl, rfl⟩
  · obtain ⟨rfl, rfl⟩ := r.sum a c d; obtain ⟨rfl, rfl⟩ := s.sum a c d; exact ⟨rfl, rfl⟩
  · obtain ⟨rfl, rfl⟩ := r.yes a c d m g em; obtain ⟨rfl, rfl⟩ := s.yes a c d _ g em; exact ⟨rfl, rfl⟩
  · obtain ⟨rfl, rfl⟩ := r.no a c d m; obtain ⟨rfl, rfl⟩ := s.no a c d m; exact ⟨rfl, rfl⟩
/-- there and back -/
theorem reads_lay {h k : Hdr} {e : Nat} (g : Good h) (r : Reads (layB h) k e) : k = h ∧ e = 0 := r.yes (lay_len g) (lay_ustar g) (lay_sealed g) h g rfl
theorem lay_reads {h : Hdr} (g : Good h) : Reads (layB h) h 0 :=
  ⟨fun n => absurd (lay_len g) n, fun _ n => absurd (lay_ustar g) n, fun _ _ n => absurd (lay_sealed g) n, fun _ _ _ k gk e => ⟨lay_inj g gk e.symm, rfl⟩, fun _ _ _ n => absurd rfl (n h g)⟩
theorem reads_back {b : B} {h : Hdr} (r : Reads b h 0) : Good h ∧ layB h = b := by
  rcases reads_cases b with a | ⟨a, c⟩ | ⟨a, c, d⟩ | ⟨a, c, d, m, g, em⟩ | ⟨a, c, d, m⟩
  · exact absurd (r.len a).2 (by decide)
  · exact absurd (r.word a c).2 (by decide)
  · exact absurd (r.sum a c d).2 (by decide)
  · obtain ⟨rfl, _⟩ := r.yes a c d m g em; exact ⟨g, em⟩
  · exact absurd (r.no a c d m).2 (by decide)
theorem reads_bad {b : B} {h : Hdr} {e : Nat} (r : Reads b h e) (he : e ≠ 0) : h = none := by
  rcases reads_cases b with a | ⟨a, c⟩ | ⟨a, c, d⟩ | ⟨a, c, d, m, g, em⟩ | ⟨a, c, d, m⟩
  · exact (r.len a).1
  · exact (r.word a c).1
  · exact (r.sum a c d).1
  · exact absurd (r.yes a c d m g em).2 he
  · exact (r.no a c d m).1
theorem reads_er {b : B} {h : Hdr} {e : Nat} (r : Reads b h e) : e ≤ 101 := by
  rcases reads_cases b with a | ⟨a, c⟩ | ⟨a, c, d⟩ | ⟨a, c, d, m, g, em⟩ | ⟨a, c, d, m⟩
  · have := (r.len a).2; omega
  · have := (r.word a c).2; omega
  · have := (r.sum a c d).2; omega
  · have := (r.yes a c d m g em).2; omega
  · have := (r.no a c d m).2; omega
/-- a byte that is another is seen -/
theorem reads_set {h k : Hdr} {e i : Nat} {c x : UInt8} (g : Good h) (hx : (layB h)[i]? = some x) (hc : x ≠ c) (r : Reads ((layB h).set i c) k e) : k = none ∧ (e = 100 ∨ e = 101) := by
  have hl : ((layB h).set i c).length = 512 := by rw [List.length_set]; exact lay_len g
  have hs := seal_set (lay_sealed g) (lay_len g) hx hc
  by_cases h2 : (((layB h).set i c).drop 257).take 8 = ustar
  · obtain ⟨a, b⟩ := r.sum hl h2 hs; exact ⟨a, .inr b⟩
  · obtain ⟨a, b⟩ := r.word hl h2; exact ⟨a, .inl b⟩
/-- what is sealed is never refused for its sum -/
theorem reads_seal {b : B} {h : Hdr} {e : Nat} (hb : b.length = 512) (r : Reads (sealB b) h e) : e ≠ 101 := by
  have hs := seal_seal (b := b) (by omega)
  intro he
  subst he
  rcases reads_cases (sealB b) with a | ⟨a, c⟩ | ⟨a, c, d⟩ | ⟨a, c, d, m, g, em⟩ | ⟨a, c, d, m⟩
  · exact absurd (r.len a).2 (by decide)
  · exact absurd (r.word a c).2 (by decide)
  · exact absurd hs d
  · exact absurd (r.yes a c d m g em).2 (by decide)
  · exact absurd (r.no a c d m).2 (by decide)
end Hd
end Go.Proofs.YtldkhbkgmiicbaaGreatDoor

/- Numbers in a head's fields: the mathematics. -/
namespace Go.Proofs.YtldkhbkgmiicbaaGreatDoor
open Go.RowKit Go.Deep
set_option linter.unusedVariables false
set_option linter.unusedSimpArgs false

namespace Oct
/-- what k bytes tell, the greatest one first -/
def num (f : Nat → Int) : Nat → Int
  | 0 => 0
  | k + 1 => num f k * 256 + f k
theorem num_nonneg {f : Nat → Int} (hf : ∀ i, 0 ≤ f i ∧ f i < 256) : ∀ k, 0 ≤ num f k
  | 0 => Int.le_refl 0
  | k + 1 => by have := num_nonneg hf k; have := hf k; unfold num; omega
theorem num_mono {f : Nat → Int} (hf : ∀ i, 0 ≤ f i ∧ f i < 256) (j : Nat) : ∀ k, j ≤ k → num f j ≤ num f k
  | 0, h => by rw [show j = 0 by omega]; exact Int.le_refl _
  | k + 1, h => by
    rcases Nat.lt_or_ge j (k + 1) with h1 | h1
    · have := num_mono hf j k (by omega)
      have := num_nonneg hf k
      have := hf k
      show num f j ≤ num f k * 256 + f k
      omega
    · rw [show j = k + 1 by omega]; exact Int.le_refl _
/-- what k octal digits from p on tell -/
def oct (f : Nat → Int) (p : Nat) : Nat → Int
  | 0 => 0
  | k + 1 => 8 * oct f p k + (f (p + k) - 48)
def Digit (x : Int) : Prop := 48 ≤ x ∧ x ≤ 55
def Blank (x : Int) : Prop := x = 32
def Tail (x : Int) : Prop := x = 0 ∨ x = 32
/-- from p on the bytes up to q are such, and no further -/
structure Run (P : Int → Prop) (f : Nat → Int) (L p q : Nat) : Prop where
  le : p ≤ q
  top : q ≤ L
  all : ∀ i, p ≤ i → i < q → P (f i)
  stop : q < L → ¬ P (f q)
theorem run_unique {P : Int → Prop} {f : Nat → Int} {L p q r : Nat} (h : Run P f L p q) (k : Run P f L p r) : q = r := by
  rcases Nat.lt_trichotomy q r with h1 | h1 | h1
  · exact absurd (k.all q h.le h1) (h.stop (Nat.lt_of_lt_of_le h1 k.top))
  · exact h1
  · exact absurd (h.all r k.le h1) (k.stop (Nat.lt_of_lt_of_le h1 h.top))
theorem oct_bound {f : Nat → Int} {p : Nat} : ∀ k, (∀ i, i < k → Digit (f (p + i))) → 0 ≤ oct f p k ∧ oct f p k < 8 ^ k
  | 0, _ => by simp [oct]
  | k + 1, h => by
    have h1 := oct_bound k (fun i hi => h i (by omega))
    have h2 := h k (by omega)
    unfold Digit at h2
    rw [Int.pow_succ]
    show 0 ≤ 8 * oct f p k + (f (p + k) - 48) ∧ 8 * oct f p k + (f (p + k) - 48) < 8 ^ k * 8
    omega
/-- what the reading of a loose field answers: the number, the place, the error -/
structure Says (L : Nat) (f : Nat → Int) (n at_ e : Int) : Prop where
  arg : ¬ (2 ≤ L ∧ L ≤ 12) → n = 0 ∧ at_ = 0 ∧ e = 1
  wide : 2 ≤ L → L ≤ 12 → f 0 = 128 → num (fun i => f (1 + i)) (L - 1) ≤ 9223372036854775807 → n = num (fun i => f (1 + i)) (L - 1) ∧ at_ = 0 ∧ e = 0
  long : 2 ≤ L → L ≤ 12 → f 0 = 128 → ¬ num (fun i => f (1 + i)) (L - 1) ≤ 9223372036854775807 → n = 0 ∧ at_ = 0 ∧ e = 2
  loose : 2 ≤ L → L ≤ 12 → ¬ f 0 = 128 → ∀ p q r, Run Blank f L 0 p → Run Digit f L p q → Run Tail f L q r → (r = L → n = oct f p (q - p) ∧ at_ = 0 ∧ e = 0) ∧ (r < L → n = 0 ∧ at_ = (r : Int) ∧ e = 70)
theorem run_ex (P : Int → Prop) (f : Nat → Int) (L p : Nat) (hp : p ≤ L) : ∃ q, Run P f L p q := by
  obtain ⟨d, hd⟩ : ∃ d, d = L - p := ⟨_, rfl⟩
  induction d generalizing p with
  | zero => exact ⟨p, Nat.le_refl _, hp, fun i h1 h2 => by omega, fun h => by omega⟩
  | succ d ih =>
    by_cases h : P (f p)
    · obtain ⟨q, hq⟩ := ih (p + 1) (by omega) (by omega)
      refine ⟨q, by have := hq.le; omega, hq.top, fun i h1 h2 => ?_, hq.stop⟩
      rcases Nat.lt_or_ge p i with h3 | h3
      · exact hq.all i (by omega) h2
      · rw [show i = p by omega]; exact h
    · exact ⟨p, Nat.le_refl _, hp, fun i h1 h2 => by omega, fun _ => h⟩
theorem says_unique {L : Nat} {f : Nat → Int} {n a e n' a' e' : Int} (h : Says L f n a e) (k : Says L f n' a' e') : n = n' ∧ a = a' ∧ e = e' := by
  by_cases h1 : 2 ≤ L ∧ L ≤ 12
  · by_cases h2 : f 0 = 128
    · by_cases h3 : num (fun i => f (1 + i)) (L - 1) ≤ 9223372036854775807
      · obtain ⟨rfl, rfl, rfl⟩ := h.wide h1.1 h1.2 h2 h3
        obtain ⟨rfl, rfl, rfl⟩ := k.wide h1.1 h1.2 h2 h3
        exact ⟨rfl, rfl, rfl⟩
      · obtain ⟨rfl, rfl, rfl⟩ := h.long h1.1 h1.2 h2 h3
        obtain ⟨rfl, rfl, rfl⟩ := k.long h1.1 h1.2 h2 h3
        exact ⟨rfl, rfl, rfl⟩
    · obtain ⟨p, hp⟩ := run_ex Blank f L 0 (Nat.zero_le _)
      obtain ⟨q, hq⟩ := run_ex Digit f L p hp.top
      obtain ⟨r, hr⟩ := run_ex Tail f L q hq.top
      have a1 := h.loose h1.1 h1.2 h2 p q r hp hq hr
      have b1 := k.loose h1.1 h1.2 h2 p q r hp hq hr
      rcases Nat.lt_or_ge r L with h3 | h3
      · obtain ⟨rfl, rfl, rfl⟩ := a1.2 h3
        obtain ⟨rfl, rfl, rfl⟩ := b1.2 h3
        exact ⟨rfl, rfl, rfl⟩
      · have h4 : r = L := by have := hr.top; omega
        obtain ⟨rfl, rfl, rfl⟩ := a1.1 h4
        obtain ⟨rfl, rfl, rfl⟩ := b1.1 h4
        exact ⟨rfl, rfl, rfl⟩
  · obtain ⟨rfl, rfl, rfl⟩ := h.arg h1
    obtain ⟨rfl, rfl, rfl⟩ := k.arg h1
    exact ⟨rfl, rfl, rfl⟩
end Oct
end Go.Proofs.YtldkhbkgmiicbaaGreatDoor
