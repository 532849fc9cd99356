/- Layer 10: a head's bytes: their parts, what is read of them. -/
import Derived.Test.YtkoacehgfmflmabH1
namespace Go.Proofs.Ytkoacehgfmflmab
set_option linter.unusedVariables false
set_option linter.unusedSimpArgs false

namespace Hd
theorem digits_eqB {c : Nat} (hc : 0 < c) : ∀ (K n m : Nat), n < c ^ K → m < c ^ K → (∀ k, k < K → n / c ^ k % c = m / c ^ k % c) → n = m
  | 0, n, m, hn, hm, _ => by rw [Nat.pow_zero] at hn hm; omega
  | K + 1, n, m, hn, hm, h => by
    have h0 := h 0 (by omega)
    rw [Nat.pow_zero, Nat.div_one, Nat.div_one] at h0
    rw [Nat.pow_succ] at hn hm
    have hr : n / c = m / c := by
      refine digits_eqB hc K (n / c) (m / c) (Nat.div_lt_of_lt_mul (by rw [Nat.mul_comm]; exact hn)) (Nat.div_lt_of_lt_mul (by rw [Nat.mul_comm]; exact hm)) fun k hk => ?_
      have := h (k + 1) (by omega)
      rw [Nat.pow_succ, Nat.mul_comm, ← Nat.div_div_eq_div_mul, ← Nat.div_div_eq_div_mul] at this
      exact this
    rw [← Nat.div_add_mod n c, ← Nat.div_add_mod m c, hr, h0]
theorem nb_of_eq {n m W i : Nat} (hi : i < W) (h : numB n W = numB m W) : nb n W i = nb m W i := by
  have h1 := numB_at (n := n) (W := W) (i := i) hi
  have h2 := numB_at (n := m) (W := W) (i := i) hi
  rw [h, h2] at h1
  have h4 := congrArg UInt8.toNat (Option.some.inj h1)
  rw [UInt8.toNat_ofNat', UInt8.toNat_ofNat', Nat.mod_eq_of_lt (nb_lt _ _ _), Nat.mod_eq_of_lt (nb_lt _ _ _)] at h4
  exact h4.symm
theorem numB_one {n m W : Nat} (hW : 2 ≤ W) (hn : n < 8 ^ (W - 1) ∨ n < 256 ^ (W - 1)) (hm : m < 8 ^ (W - 1) ∨ m < 256 ^ (W - 1)) (h : numB n W = numB m W) : n = m := by
  have h0 := nb_of_eq (i := 0) (by omega) h
  by_cases a : n < 8 ^ (W - 1)
  · by_cases b : m < 8 ^ (W - 1)
    · exact numB_inj a b h
    · unfold nb at h0
      rw [if_pos a, if_pos (by omega), if_neg b, if_pos rfl] at h0
      omega
  · by_cases b : m < 8 ^ (W - 1)
    · unfold nb at h0
      rw [if_neg a, if_pos rfl, if_pos b, if_pos (by omega)] at h0
      omega
    · have hn2 := hn.resolve_left a
      have hm2 := hm.resolve_left b
      refine digits_eqB (c := 256) (by decide) (W - 1) n m hn2 hm2 fun k hk => ?_
      have := nb_of_eq (i := W - 1 - k) (by omega) h
      unfold nb at this
      rw [if_neg a, if_neg b, if_neg (by omega), if_neg (by omega), show W - 1 - (W - 1 - k) = k by omega] at this
      exact this
theorem slice_flat : ∀ (L : List B) (i : Nat) (p : B), L[i]? = some p → ((L.flatten.drop (((L.take i).map List.length).sum)).take p.length) = p
  | [], i, p, h => by simp at h
  | x :: L, 0, p, h => by
    have : x = p := Option.some.inj h
    subst this
    simp
  | x :: L, i + 1, p, h => by
    have := slice_flat L i p h
    rw [List.take_succ_cons, List.map_cons, List.sum_cons, List.flatten_cons, ← List.drop_drop, List.drop_left]
    exact this
/-- a head -/
structure Hdr where
  name : B
  mode : Int
  size : Int
  time : Int
  typ : UInt8
  link : B
  pre : B
def ustar : B := [117, 115, 116, 97, 114, 0, 48, 48]
def nul (s : B) : Bool := s.any (fun c => c == 0)
theorem nul_no {s : B} (h : nul s = false) : (0 : UInt8) ∉ s := fun hm => by
  have : nul s = true := List.any_eq_true.2 ⟨0, hm, by decide⟩
  rw [h] at this; exact absurd this (by decide)
def may (h : Hdr) : Nat :=
  if h.typ ≠ 48 ∧ h.typ ≠ 49 ∧ h.typ ≠ 50 ∧ h.typ ≠ 53 ∧ h.typ ≠ 120 then 102
  else if h.name.length > 100 ∨ h.link.length > 100 ∨ h.pre.length > 155 then 2
  else if nul h.name = true ∨ nul h.link = true ∨ nul h.pre = true then 82
  else if h.mode < 0 ∨ h.mode > 4095 ∨ h.size < 0 ∨ h.size > 8589934591 ∨ h.time < 0 ∨ h.time > 1099511627776 then 1
  else 0
structure Good (h : Hdr) : Prop where
  typ : h.typ = 48 ∨ h.typ = 49 ∨ h.typ = 50 ∨ h.typ = 53 ∨ h.typ = 120
  name : h.name.length ≤ 100
  link : h.link.length ≤ 100
  pre : h.pre.length ≤ 155
  nname : (0 : UInt8) ∉ h.name
  nlink : (0 : UInt8) ∉ h.link
  npre : (0 : UInt8) ∉ h.pre
  mode : 0 ≤ h.mode ∧ h.mode ≤ 4095
  size : 0 ≤ h.size ∧ h.size ≤ 8589934591
  time : 0 ≤ h.time ∧ h.time ≤ 1099511627776
theorem may_good {h : Hdr} (e : may h = 0) : Good h := by
  unfold may at e
  split at e
  · exact absurd e (by decide)
  split at e
  · exact absurd e (by decide)
  split at e
  · exact absurd e (by decide)
  split at e
  · exact absurd e (by decide)
  rename_i h1 h2 h3 h4
  have n1 : nul h.name = false := by cases hx : nul h.name with | false => rfl | true => exact absurd (.inl hx) h3
  have n2 : nul h.link = false := by cases hx : nul h.link with | false => rfl | true => exact absurd (.inr (.inl hx)) h3
  have n3 : nul h.pre = false := by cases hx : nul h.pre with | false => rfl | true => exact absurd (.inr (.inr hx)) h3
  refine ⟨?_, by omega, by omega, by omega, nul_no n1, nul_no n2, nul_no n3, by omega, by omega, by omega⟩
  by_cases a1 : h.typ = 48
  · exact .inl a1
  by_cases a2 : h.typ = 49
  · exact .inr (.inl a2)
  by_cases a3 : h.typ = 50
  · exact .inr (.inr (.inl a3))
  by_cases a4 : h.typ = 53
  · exact .inr (.inr (.inr (.inl a4)))
  by_cases a5 : h.typ = 120
  · exact .inr (.inr (.inr (.inr a5)))
  exact absurd ⟨a1, a2, a3, a4, a5⟩ h1
/-- what stands ahead of the sum, and behind it -/
def ahead (h : Hdr) : List B := [pad h.name 100, numB h.mode.toNat 8, numB 0 8, numB 0 8, numB h.size.toNat 12, numB h.time.toNat 12]
def after (h : Hdr) : List B := [[h.typ], pad h.link 100, pad ustar 8, pad [] 64, numB 0 8, numB 0 8, pad h.pre 155, pad [] 12]
/-- a head's bytes ahead of sealing, and sealed -/
def rawB (h : Hdr) : B := (ahead h).flatten ++ (pad [] 8 ++ (after h).flatten)
def layB (h : Hdr) : B := sealB (rawB h)
theorem ahead_len {h : Hdr} (g : Good h) : (ahead h).flatten.length = 148 := by
  unfold ahead
  simp only [List.flatten_cons, List.flatten_nil, List.length_append, List.length_nil, numB_len, pad_len g.name]
theorem after_len {h : Hdr} (g : Good h) : (after h).flatten.length = 356 := by
  unfold after
  simp only [List.flatten_cons, List.flatten_nil, List.length_append, List.length_nil, List.length_cons, numB_len, pad_len g.link, pad_len g.pre, pad_len (show ustar.length ≤ 8 by decide), pad_len (show ([] : B).length ≤ 64 by decide), pad_len (show ([] : B).length ≤ 12 by decide)]
theorem raw_len {h : Hdr} (g : Good h) : (rawB h).length = 512 := by
  unfold rawB
  rw [List.length_append, List.length_append, ahead_len g, after_len g, pad_len (by decide)]
theorem raw_take {h : Hdr} (g : Good h) : (rawB h).take 148 = (ahead h).flatten := by
  unfold rawB
  rw [List.take_append_of_le_length (by rw [ahead_len g]; omega), List.take_of_length_le (by rw [ahead_len g]; omega)]
theorem raw_drop {h : Hdr} (g : Good h) : (rawB h).drop 156 = (after h).flatten := by
  unfold rawB
  rw [← List.append_assoc, List.drop_append_of_le_length (by rw [List.length_append, ahead_len g, pad_len (by decide)]; omega), List.drop_eq_nil_of_le (by rw [List.length_append, ahead_len g, pad_len (by decide)]; omega), List.nil_append]
theorem lay_len {h : Hdr} (g : Good h) : (layB h).length = 512 := by unfold layB; rw [seal_len (by rw [raw_len g]; omega), raw_len g]
theorem lay_sealed {h : Hdr} (g : Good h) : sealB (layB h) = layB h := by unfold layB; exact seal_seal (by rw [raw_len g]; omega)
theorem lay_take {h : Hdr} (g : Good h) : (layB h).take 148 = (ahead h).flatten := by unfold layB; rw [seal_take (by rw [raw_len g]; omega), raw_take g]
theorem lay_drop {h : Hdr} (g : Good h) : (layB h).drop 156 = (after h).flatten := by unfold layB; rw [seal_drop (by rw [raw_len g]; omega), raw_drop g]
theorem slice_ahead {h : Hdr} (g : Good h) {i : Nat} {p : B} (hp : (ahead h)[i]? = some p) (o : Nat) (ho : (((ahead h).take i).map List.length).sum = o) (hle : o + p.length ≤ 148) : ((layB h).drop o).take p.length = p := by
  have e := slice_flat (ahead h) i p hp
  rw [ho, ← lay_take g, List.drop_take, List.take_take, Nat.min_eq_left (by omega)] at e
  exact e
theorem slice_after {h : Hdr} (g : Good h) {i : Nat} {p : B} (hp : (after h)[i]? = some p) (o : Nat) (ho : (((after h).take i).map List.length).sum = o) : ((layB h).drop (156 + o)).take p.length = p := by
  have e := slice_flat (after h) i p hp
  rw [ho, ← lay_drop g, List.drop_drop] at e
  exact e
theorem lay_name {h : Hdr} (g : Good h) : (layB h).take 100 = pad h.name 100 := by
  have e := slice_ahead g (i := 0) (p := pad h.name 100) rfl 0 rfl (by rw [pad_len g.name]; omega)
  rw [pad_len g.name] at e
  exact e
theorem lay_mode {h : Hdr} (g : Good h) : ((layB h).drop 100).take 8 = numB h.mode.toNat 8 := by
  have e := slice_ahead g (i := 1) (p := numB h.mode.toNat 8) rfl 100 (by simp [ahead, pad_len g.name]) (by rw [numB_len]; omega)
  rw [numB_len] at e
  exact e
theorem lay_size {h : Hdr} (g : Good h) : ((layB h).drop 124).take 12 = numB h.size.toNat 12 := by
  have e := slice_ahead g (i := 4) (p := numB h.size.toNat 12) rfl 124 (by simp [ahead, pad_len g.name, numB_len]) (by rw [numB_len]; omega)
  rw [numB_len] at e
  exact e
theorem lay_time {h : Hdr} (g : Good h) : ((layB h).drop 136).take 12 = numB h.time.toNat 12 := by
  have e := slice_ahead g (i := 5) (p := numB h.time.toNat 12) rfl 136 (by simp [ahead, pad_len g.name, numB_len]) (by rw [numB_len]; omega)
  rw [numB_len] at e
  exact e
theorem lay_typ {h : Hdr} (g : Good h) : (layB h)[156]? = some h.typ := by
  have e : ((layB h).drop 156)[0]? = some h.typ := by rw [lay_drop g]; rfl
  rw [List.getElem?_drop] at e
  exact e
theorem lay_link {h : Hdr} (g : Good h) : ((layB h).drop 157).take 100 = pad h.link 100 := by
  have e := slice_after g (i := 1) (p := pad h.link 100) rfl 1 (by simp [after])
  rw [pad_len g.link] at e
  exact e
theorem lay_ustar {h : Hdr} (g : Good h) : ((layB h).drop 257).take 8 = ustar := by
  have e := slice_after g (i := 2) (p := pad ustar 8) rfl 101 (by simp [after, pad_len g.link])
  exact e
theorem lay_pre {h : Hdr} (g : Good h) : ((layB h).drop 345).take 155 = pad h.pre 155 := by
  have e := slice_after g (i := 6) (p := pad h.pre 155) rfl 189 (by simp [after, pad_len g.link, numB_len, pad_len (show ustar.length ≤ 8 by decide), pad_len (show ([] : B).length ≤ 64 by decide)])
  rw [pad_len g.pre] at e
  exact e
/-- two heads with the same bytes are one -/
theorem lay_inj {h k : Hdr} (g : Good h) (f : Good k) (e : layB h = layB k) : h = k := by
  have e1 : h.name = k.name := by
    have := (lay_name g).symm.trans ((congrArg (List.take 100) e).trans (lay_name f))
    rw [← first_pad 100 g.nname, this, first_pad 100 f.nname]
  have e2 : h.link = k.link := by
    have := (lay_link g).symm.trans ((congrArg (fun l : B => (l.drop 157).take 100) e).trans (lay_link f))
    rw [← first_pad 100 g.nlink, this, first_pad 100 f.nlink]
  have e3 : h.pre = k.pre := by
    have := (lay_pre g).symm.trans ((congrArg (fun l : B => (l.drop 345).take 155) e).trans (lay_pre f))
    rw [← first_pad 155 g.npre, this, first_pad 155 f.npre]
  have e4 : h.typ = k.typ := by
    have := (lay_typ g).symm.trans ((congrArg (fun l : B => l[156]?) e).trans (lay_typ f))
    exact Option.some.inj this
  have e5 : h.mode = k.mode := by
    have := (lay_mode g).symm.trans ((congrArg (fun l : B => (l.drop 100).take 8) e).trans (lay_mode f))
    have := numB_one (by decide) (.inl (by have := g.mode; show _ < 2097152; omega)) (.inl (by have := f.mode; show _ < 2097152; omega)) this
    have := g.mode; have := f.mode; omega
  have e6 : h.size = k.size := by
    have := (lay_size g).symm.trans ((congrArg (fun l : B => (l.drop 124).take 12) e).trans (lay_size f))
    have := numB_one (by decide) (.inl (by have := g.size; show _ < 8589934592; omega)) (.inl (by have := f.size; show _ < 8589934592; omega)) this
    have := g.size; have := f.size; omega
  have e7 : h.time = k.time := by
    have := (lay_time g).symm.trans ((congrArg (fun l : B => (l.drop 136).take 12) e).trans (lay_time f))
    have := numB_one (by decide) (.inr (by have := g.time; show _ < 309485009821345068724781056; omega)) (.inr (by have := f.time; show _ < 309485009821345068724781056; omega)) this
    have := g.time; have := f.time; omega
  cases h; cases k
  simp only at e1 e2 e3 e4 e5 e6 e7
  subst e1 e2 e3 e4 e5 e6 e7
  rfl
end Hd
end Go.Proofs.Ytkoacehgfmflmab
