/- Sums of products as numbers of the field; what came in, and whether it is great. -/
import Derived.Test.YtpgjkhlffcomgaaP12
import Derived.Test.YtpgjkhlffcomgaaFr
namespace Go.Proofs.Ytpgjkhlffcomgaa
open Go.RowKit

theorem dot_fi (f g : Nat → Int) (hf : ∀ i, 0 ≤ f i ∧ f i < 256) : ∀ k, (∀ i, i < k → 0 ≤ g i ∧ g i < 256) → fi (dotU f g k) = La.sum k fun t => La.ml (fi (f t)) (fi (g t))
  | 0, _ => rfl
  | k + 1, hg => by
    show fi (addI (dotU f g k) (mulI (f k) (g k))) = La.ad (La.sum k _) _
    rw [fi_add (dotU_bd f g hf k) (mulI_bd _ _ (hf k).2), fi_mul (hf k) (hg k (by omega)), dot_fi f g hf k (fun i hi => hg i (by omega))]

theorem mulI_one (x : Int) (h : 0 ≤ x ∧ x < 256) : mulI 1 x = x := by
  apply fi_inj (mulI_bd 1 x (by omega)) h
  rw [fi_mul (by omega) h, fi_one, La.one_mul]

theorem dot_sum (f g h s : Nat → Int) (n : Nat) (hf : ∀ i, 0 ≤ f i ∧ f i < 256) (hg : ∀ i, 0 ≤ g i ∧ g i < 256) (hh : ∀ i, 0 ≤ h i ∧ h i < 256) (e : ∀ i, i < n → s i = addI (g i) (mulI 1 (h i))) :
    dotU f s n = addI (dotU f g n) (dotU f h n) := by
  have hs : ∀ i, i < n → 0 ≤ s i ∧ s i < 256 := fun i hi => by rw [e i hi]; exact addI_bd _ _ (hg i).2 (mulI_bd _ _ (by omega)).2
  apply fi_inj (dotU_bd f s hf n) (addI_bd _ _ (dotU_bd f g hf n).2 (dotU_bd f h hf n).2)
  rw [fi_add (dotU_bd f g hf n) (dotU_bd f h hf n), dot_fi f s hf n hs, dot_fi f g hf n (fun i _ => hg i), dot_fi f h hf n (fun i _ => hh i), ← La.sum_add]
  apply La.sum_congr
  intro i hi
  rw [e i hi, mulI_one _ (hh i), fi_add (hg i) (hh i), La.mul_add]

theorem prod_bd {m : Nat} {Z Y : Nat → Nat → Int} {i : Nat} (hZ : ∀ t, 0 ≤ Z i t ∧ Z i t < 256) (j : Nat) : 0 ≤ prodZ m Z Y i j ∧ prodZ m Z Y i j < 256 := dotU_bd _ _ hZ m

theorem prod_fm {m : Nat} {Z Y : Nat → Nat → Int} {i j : Nat} (hZ : ∀ t, 0 ≤ Z i t ∧ Z i t < 256) (hY : ∀ t, t < m → 0 ≤ Y t j ∧ Y t j < 256) : fm (prodZ m Z Y) i j = La.mm m (fm Z) (fm Y) i j := dot_fi (Z i) (fun t => Y t j) hZ m hY

/-- brackets go either way -/
theorem prod_assoc {m q : Nat} {Z Y X : Nat → Nat → Int} {i j : Nat} (hZ : ∀ t, 0 ≤ Z i t ∧ Z i t < 256) (hY : ∀ t, t < m → ∀ c, 0 ≤ Y t c ∧ Y t c < 256) (hX : ∀ t, t < q → 0 ≤ X t j ∧ X t j < 256) :
    prodZ q (prodZ m Z Y) X i j = prodZ m Z (prodZ q Y X) i j := by
  have hp : ∀ t, 0 ≤ prodZ m Z Y i t ∧ prodZ m Z Y i t < 256 := prod_bd hZ
  apply fi_inj (prod_bd hp j) (prod_bd hZ j)
  have e1 := prod_fm (m := q) (Z := prodZ m Z Y) (Y := X) (i := i) (j := j) hp hX
  have e2 := prod_fm (m := m) (Z := Z) (Y := prodZ q Y X) (i := i) (j := j) hZ (fun t ht => prod_bd (hY t ht) j)
  show fm (prodZ q (prodZ m Z Y) X) i j = fm (prodZ m Z (prodZ q Y X)) i j
  rw [e1, e2]
  have e3 : La.mm q (fm (prodZ m Z Y)) (fm X) i j = La.mm q (La.mm m (fm Z) (fm Y)) (fm X) i j := La.mm_congr (fun t _ => prod_fm hZ (fun s hs => hY s hs t)) (fun _ _ => rfl)
  have e4 : La.mm m (fm Z) (fm (prodZ q Y X)) i j = La.mm m (fm Z) (La.mm q (fm Y) (fm X)) i j := La.mm_congr (fun _ _ => rfl) (fun t ht => prod_fm (hY t ht) hX)
  rw [e3, e4, La.mm_assoc]

theorem small_any {A : Option Addr} {n cap : Nat} {R : Nat → Option Addr} {L C : Nat → Nat} {Z : Nat → Nat → Int} {w : World} (h : InMat w A n cap R L C Z) (b : Bool) (hb : decide (4096 < bulk L n) = b) {w' : World} (hw : Bw w w') :
    Calls Try.prog 15 #[.slice A n cap] w' fun e w'' => e = .returned (.bool b) ∧ w'' = w' := by
  have h1 := h.le
  have h2 := h.room
  rw [← hb]
  exact great_any A n cap R L C Z (fun r hr => by have := h.rows r hr; omega) (by omega) w' (h.mat.keep hw)

theorem one_fm (i j : Nat) : fm oneZ i j = La.one i j := by
  unfold fm oneZ La.one; split <;> rfl

theorem cols_self (n : Nat) : colsN n (fun _ => n) = n := by
  unfold colsN; split
  · omega
  · rfl

end Go.Proofs.Ytpgjkhlffcomgaa
