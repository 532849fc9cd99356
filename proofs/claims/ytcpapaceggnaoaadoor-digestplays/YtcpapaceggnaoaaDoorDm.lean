/- Digests of bytes: words, rounds, blocks, as the document tells them, said of naturals. Nothing of the program is named here. -/
import Derived.WalkKit
namespace Sha

def ones : Nat := 4294967295
def add (a b : Nat) : Nat := (a + b) % 4294967296
/-- x turned round by n bits to the right -/
def rot (n x : Nat) : Nat := x / 2 ^ n ||| x * 2 ^ (32 - n) % 4294967296
def sg0 (x : Nat) : Nat := rot 7 x ^^^ rot 18 x ^^^ x / 8
def sg1 (y : Nat) : Nat := rot 17 y ^^^ rot 19 y ^^^ y / 1024
def SG1 (e : Nat) : Nat := rot 6 e ^^^ rot 11 e ^^^ rot 25 e
def SG0 (a : Nat) : Nat := rot 2 a ^^^ rot 13 a ^^^ rot 22 a
def ch (e f g : Nat) : Nat := (e &&& f) ^^^ ((e ^^^ ones) &&& g)
def maj (a b c : Nat) : Nat := (a &&& b) ^^^ (a &&& c) ^^^ (b &&& c)
/-- word t of a block -/
def word (b : Nat → Nat) (t : Nat) : Nat := b (4 * t) * 16777216 ||| b (4 * t + 1) * 65536 ||| b (4 * t + 2) * 256 ||| b (4 * t + 3)

theorem xor_lt {a b : Nat} (ha : a < 4294967296) (hb : b < 4294967296) : a ^^^ b < 4294967296 := Nat.xor_lt_two_pow (n := 32) ha hb
theorem or_lt {a b : Nat} (ha : a < 4294967296) (hb : b < 4294967296) : a ||| b < 4294967296 := Nat.or_lt_two_pow (n := 32) ha hb
theorem and_lt {a : Nat} (b : Nat) (ha : a < 4294967296) : a &&& b < 4294967296 := Nat.lt_of_le_of_lt Nat.and_le_left ha
theorem add_lt (a b : Nat) : add a b < 4294967296 := Nat.mod_lt _ (by decide)
theorem rot_lt (n : Nat) {x : Nat} (hx : x < 4294967296) : rot n x < 4294967296 := or_lt (Nat.lt_of_le_of_lt (Nat.div_le_self _ _) hx) (Nat.mod_lt _ (by decide))
theorem sg0_lt {x : Nat} (hx : x < 4294967296) : sg0 x < 4294967296 := xor_lt (xor_lt (rot_lt _ hx) (rot_lt _ hx)) (by omega)
theorem sg1_lt {x : Nat} (hx : x < 4294967296) : sg1 x < 4294967296 := xor_lt (xor_lt (rot_lt _ hx) (rot_lt _ hx)) (by omega)
theorem SG0_lt {x : Nat} (hx : x < 4294967296) : SG0 x < 4294967296 := xor_lt (xor_lt (rot_lt _ hx) (rot_lt _ hx)) (rot_lt _ hx)
theorem SG1_lt {x : Nat} (hx : x < 4294967296) : SG1 x < 4294967296 := xor_lt (xor_lt (rot_lt _ hx) (rot_lt _ hx)) (rot_lt _ hx)
theorem word_lt {b : Nat → Nat} (hb : ∀ i, b i < 256) (t : Nat) : word b t < 4294967296 := by
  have h0 := hb (4 * t)
  have h1 := hb (4 * t + 1)
  have h2 := hb (4 * t + 2)
  have h3 := hb (4 * t + 3)
  exact or_lt (or_lt (or_lt (by omega) (by omega)) (by omega)) (by omega)

/-- the next word behind those of l, the newest first -/
def nx (b : Nat → Nat) (t : Nat) (l : List Nat) : Nat :=
  if t < 16 then word b t else add (add (add (l.getD 15 0) (sg0 (l.getD 14 0))) (l.getD 6 0)) (sg1 (l.getD 1 0))
/-- the first t words of a block, the newest first -/
def wl (b : Nat → Nat) : Nat → List Nat
  | 0 => []
  | t + 1 => nx b t (wl b t) :: wl b t
def wd (b : Nat → Nat) (t : Nat) : Nat := nx b t (wl b t)

theorem wl_at (b : Nat → Nat) : ∀ t i, i < t → (wl b t).getD (t - 1 - i) 0 = wd b i
  | 0, i, h => by omega
  | t + 1, i, h => by
    by_cases e : i = t
    · subst e
      rw [show i + 1 - 1 - i = 0 by omega]
      unfold wl
      rw [List.getD_cons_zero]; rfl
    · rw [show t + 1 - 1 - i = (t - 1 - i) + 1 by omega]
      unfold wl
      rw [List.getD_cons_succ]
      exact wl_at b t i (by omega)
theorem wd_lo (b : Nat → Nat) {t : Nat} (h : t < 16) : wd b t = word b t := by
  unfold wd nx
  rw [if_pos h]
theorem wd_hi (b : Nat → Nat) {t : Nat} (h : 16 ≤ t) : wd b t = add (add (add (wd b (t - 16)) (sg0 (wd b (t - 15)))) (wd b (t - 7))) (sg1 (wd b (t - 2))) := by
  have e0 := wl_at b t (t - 16) (by omega)
  have e1 := wl_at b t (t - 15) (by omega)
  have e2 := wl_at b t (t - 7) (by omega)
  have e3 := wl_at b t (t - 2) (by omega)
  rw [show t - 1 - (t - 16) = 15 by omega] at e0
  rw [show t - 1 - (t - 15) = 14 by omega] at e1
  rw [show t - 1 - (t - 7) = 6 by omega] at e2
  rw [show t - 1 - (t - 2) = 1 by omega] at e3
  rw [← e0, ← e1, ← e2, ← e3]
  show nx b t (wl b t) = _
  unfold nx
  rw [if_neg (by omega)]
theorem wd_lt {b : Nat → Nat} (hb : ∀ i, b i < 256) (t : Nat) : wd b t < 4294967296 := by
  by_cases h : t < 16
  · rw [wd_lo b h]; exact word_lt hb t
  · rw [wd_hi b (by omega)]; exact add_lt _ _
theorem wd_congr {b c : Nat → Nat} (h : ∀ i, i < 64 → b i = c i) : ∀ n t, t < n → wd b t = wd c t
  | 0, t, ht => by omega
  | n + 1, t, ht => by
    by_cases h16 : t < 16
    · rw [wd_lo b h16, wd_lo c h16]
      unfold word
      rw [h _ (by omega), h _ (by omega), h _ (by omega), h _ (by omega)]
    · rw [wd_hi b (by omega), wd_hi c (by omega), wd_congr h n (t - 16) (by omega), wd_congr h n (t - 15) (by omega), wd_congr h n (t - 7) (by omega), wd_congr h n (t - 2) (by omega)]

/-- the numbers k(0) to k(63) -/
def ks : List Nat := [1116352408, 1899447441, 3049323471, 3921009573, 961987163, 1508970993, 2453635748, 2870763221, 3624381080, 310598401, 607225278, 1426881987, 1925078388, 2162078206, 2614888103, 3248222580,
  3835390401, 4022224774, 264347078, 604807628, 770255983, 1249150122, 1555081692, 1996064986, 2554220882, 2821834349, 2952996808, 3210313671, 3336571891, 3584528711, 113926993, 338241895,
  666307205, 773529912, 1294757372, 1396182291, 1695183700, 1986661051, 2177026350, 2456956037, 2730485921, 2820302411, 3259730800, 3345764771, 3516065817, 3600352804, 4094571909, 275423344,
  430227734, 506948616, 659060556, 883997877, 958139571, 1322822218, 1537002063, 1747873779, 1955562222, 2024104815, 2227730452, 2361852424, 2428436474, 2756734187, 3204031479, 3329325298]
def kn (t : Nat) : Nat := ks.getD t 0
theorem kn_lt (t : Nat) : kn t < 4294967296 := by
  unfold kn
  by_cases h : t < 64
  · have : ∀ t, t < 64 → ks.getD t 0 < 4294967296 := by decide
    exact this t h
  · rw [List.getD_eq_getElem?_getD, List.getElem?_eq_none (by show 64 ≤ t; omega)]; decide

/-- one round -/
def uu (s : Nat → Nat) (k w : Nat) : Nat := add (add (add (add (s 7) (SG1 (s 4))) (ch (s 4) (s 5) (s 6))) k) w
def vv (s : Nat → Nat) : Nat := add (SG0 (s 0)) (maj (s 0) (s 1) (s 2))
def rd (s : Nat → Nat) (k w : Nat) : Nat → Nat
  | 0 => add (uu s k w) (vv s)
  | 1 => s 0
  | 2 => s 1
  | 3 => s 2
  | 4 => add (s 3) (uu s k w)
  | 5 => s 4
  | 6 => s 5
  | 7 => s 6
  | _ => 0
def rounds (b s : Nat → Nat) : Nat → Nat → Nat
  | 0 => s
  | t + 1 => rd (rounds b s t) (kn t) (wd b t)
theorem rounds_lt {b s : Nat → Nat} (hs : ∀ i, s i < 4294967296) : ∀ t i, rounds b s t i < 4294967296
  | 0, i => hs i
  | t + 1, i => by
    have ih := rounds_lt (b := b) hs t
    show rd (rounds b s t) _ _ i < _
    unfold rd
    split <;> first | exact add_lt _ _ | exact ih _ | decide
/-- the state behind a block -/
def taken (s b : Nat → Nat) (i : Nat) : Nat := add (s i) (rounds b s 64 i)
theorem taken_lt (s b : Nat → Nat) (i : Nat) : taken s b i < 4294967296 := add_lt _ _
theorem rounds_congr {b c s : Nat → Nat} (h : ∀ i, i < 64 → b i = c i) : ∀ t, t ≤ 64 → rounds b s t = rounds c s t
  | 0, _ => rfl
  | t + 1, ht => by
    show rd (rounds b s t) _ (wd b t) = rd (rounds c s t) _ (wd c t)
    rw [rounds_congr h t (by omega), wd_congr h 64 t (by omega)]
theorem taken_congr {b c s : Nat → Nat} (h : ∀ i, i < 64 → b i = c i) : taken s b = taken s c := by
  funext i
  unfold taken
  rw [rounds_congr h 64 (Nat.le_refl _)]

/-- the state at first -/
def iv : Nat → Nat
  | 0 => 1779033703
  | 1 => 3144134277
  | 2 => 1013904242
  | 3 => 2773480762
  | 4 => 1359893119
  | 5 => 2600822924
  | 6 => 528734635
  | 7 => 1541459225
  | _ => 0
theorem iv_lt (i : Nat) : iv i < 4294967296 := by unfold iv; split <;> decide
/-- the state behind n blocks -/
def after (g : Nat → Nat) : Nat → Nat → Nat
  | 0 => iv
  | n + 1 => taken (after g n) (fun i => g (64 * n + i))
theorem after_lt (g : Nat → Nat) : ∀ n i, after g n i < 4294967296
  | 0, i => iv_lt i
  | _ + 1, i => taken_lt _ _ i
theorem after_congr {g h : Nat → Nat} : ∀ n, (∀ i, i < 64 * n → g i = h i) → after g n = after h n
  | 0, _ => rfl
  | n + 1, e => by
    show taken (after g n) _ = taken (after h n) _
    rw [after_congr n (fun i hi => e i (by omega))]
    exact taken_congr (fun i hi => e _ (by omega))
/-- how many blocks L bytes come to -/
def blocks (L : Nat) : Nat := (L + 8) / 64 + 1
/-- the bytes, and what stands behind them -/
def pad (f : Nat → Nat) (L i : Nat) : Nat :=
  if i < L then f i else if i = L then 128 else if i < 64 * blocks L - 8 then 0 else 8 * L / 2 ^ (8 * (64 * blocks L - 1 - i)) % 256
theorem pad_lt {f : Nat → Nat} (hf : ∀ i, f i < 256) (L i : Nat) : pad f L i < 256 := by
  unfold pad
  split
  · exact hf i
  · split
    · decide
    · split
      · decide
      · exact Nat.mod_lt _ (by decide)
/-- byte i of the digest of L bytes -/
def dig (f : Nat → Nat) (L i : Nat) : Nat := after (pad f L) (blocks L) (i / 4) / 2 ^ (24 - 8 * (i % 4)) % 256
theorem dig_lt (f : Nat → Nat) (L i : Nat) : dig f L i < 256 := Nat.mod_lt _ (by decide)
theorem dig_congr {f g : Nat → Nat} (L : Nat) (h : ∀ i, i < L → f i = g i) : dig f L = dig g L := by
  have e : pad f L = pad g L := by
    funext i
    unfold pad
    by_cases hi : i < L
    · rw [if_pos hi, if_pos hi, h i hi]
    · rw [if_neg hi, if_neg hi]
  funext i
  unfold dig
  rw [e]

end Sha
