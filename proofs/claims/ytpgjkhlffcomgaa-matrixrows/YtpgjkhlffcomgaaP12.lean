/- What the document says of a small matrix: the statements' own wakes. -/
import Derived.Test.YtpgjkhlffcomgaaP11
namespace Go.Proofs.Ytpgjkhlffcomgaa
open Go.RowKit

theorem row_lit (W : World) (cs : Array Value) (n : Nat) (f : Nat → Int) (hf : ∀ i, 0 ≤ f i ∧ f i < 256) (h : ∀ i, i < n → cs[i]? = some (.int .u8 (f i))) : RowAt (W.alloc (.cells cs 5)) (some ⟨W.heap.size, 0, none⟩) n f := row_new W cs 5 n f hf h

/-- two rows as a literal -/
theorem mat_lit2 (w : World) (c0 c1 : Array Value) (n0 n1 : Nat) (f0 f1 : Nat → Int) (b0 : ∀ i, 0 ≤ f0 i ∧ f0 i < 256) (b1 : ∀ i, 0 ≤ f1 i ∧ f1 i < 256) (h0 : ∀ i, i < n0 → c0[i]? = some (.int .u8 (f0 i))) (h1 : ∀ i, i < n1 → c1[i]? = some (.int .u8 (f1 i))) :
    MatAt (((w.alloc (.cells c0 5)).alloc (.cells c1 5)).alloc (.cells #[.slice (some ⟨w.heap.size, 0, none⟩) n0 n0, .slice (some ⟨w.heap.size + 1, 0, none⟩) n1 n1] 22)) (some ⟨w.heap.size + 2, 0, none⟩) 2
      (fun r => if r = 0 then some ⟨w.heap.size, 0, none⟩ else some ⟨w.heap.size + 1, 0, none⟩) (fun r => if r = 0 then n0 else n1) (fun r => if r = 0 then n0 else n1) (fun r => if r = 0 then f0 else f1) ∧
    Bw w (((w.alloc (.cells c0 5)).alloc (.cells c1 5)).alloc (.cells #[.slice (some ⟨w.heap.size, 0, none⟩) n0 n0, .slice (some ⟨w.heap.size + 1, 0, none⟩) n1 n1] 22)) := by
  have r0 := row_lit w c0 n0 f0 b0 h0
  have r1 := row_lit (w.alloc (.cells c0 5)) c1 n1 f1 b1 h1
  rw [size_alloc] at r1
  have hb : Bw (w.alloc (.cells c0 5)) ((w.alloc (.cells c0 5)).alloc (.cells c1 5)) := (Below.refl _ _).alloc (Nat.le_refl _) _
  have := mat_two _ _ _ n0 n0 n1 n1 f0 f1 (r0.keep hb) r1
  rw [size_alloc, size_alloc] at this
  exact ⟨this, (((Below.refl _ _).alloc (Nat.le_refl _) _).alloc (by rw [size_alloc]; omega) _).alloc (by rw [size_alloc, size_alloc]; omega) _⟩

theorem mat_lit1 (w : World) (c0 : Array Value) (n0 : Nat) (f0 : Nat → Int) (b0 : ∀ i, 0 ≤ f0 i ∧ f0 i < 256) (h0 : ∀ i, i < n0 → c0[i]? = some (.int .u8 (f0 i))) :
    MatAt ((w.alloc (.cells c0 5)).alloc (.cells #[.slice (some ⟨w.heap.size, 0, none⟩) n0 n0] 22)) (some ⟨w.heap.size + 1, 0, none⟩) 1 (fun _ => some ⟨w.heap.size, 0, none⟩) (fun _ => n0) (fun _ => n0) (fun _ => f0) ∧
    Bw w ((w.alloc (.cells c0 5)).alloc (.cells #[.slice (some ⟨w.heap.size, 0, none⟩) n0 n0] 22)) := by
  have r0 := row_lit w c0 n0 f0 b0 h0
  have hb : Bw (w.alloc (.cells c0 5)) ((w.alloc (.cells c0 5)).alloc (.cells #[.slice (some ⟨w.heap.size, 0, none⟩) n0 n0] 22)) := (Below.refl _ _).alloc (Nat.le_refl _) _
  refine ⟨⟨Or.inr ⟨w.heap.size + 1, 0, rfl, fun r hr => ?_⟩, fun r hr => r0.keep hb⟩, ((Below.refl _ _).alloc (Nat.le_refl _) _).alloc (by rw [size_alloc]; omega) _⟩
  obtain rfl : r = 0 := by omega
  rw [Nat.zero_add, World.cell?_alloc_at _ _ _ 0 (size_alloc _ _).symm]
  rfl

theorem wrong_lit {n c : Nat} {L : Nat → Nat} (hn : n ≤ 32) (hc : c ≤ 131072) (hL : ∀ r, L r = c) : Wrong n L 0 :=
  Or.inr (Or.inr ⟨rfl, hn, fun r _ => by rw [hL]; exact hc, fun r _ => by rw [hL, hL]⟩)

theorem mulsays_ok {n m k q : Nat} {L M : Nat → Nat} {x : Int} (hx : Wrong n L 0) (hy : Wrong m M 0) (hc : colsN n L = m) (h : MulSays n L m M x k q) : x = 0 ∧ k = n ∧ q = colsN m M := by
  rcases h with ⟨h1, h2, _⟩ | ⟨_, h1, h2, _⟩ | ⟨_, _, h1, _⟩ | ⟨_, _, _, h1, h2, h3⟩
  · exact absurd (Wrong.unique h1 hx) h2
  · exact absurd (Wrong.unique h1 hy) h2
  · exact absurd hc h1
  · exact ⟨h1, h2, h3⟩

theorem ivsays_ok {n k : Nat} {L : Nat → Nat} {Z Y : Nat → Nat → Int} {x : Int} (hx : Wrong n L 0) (hc : colsN n L = n) (h : IvSays n L Z Y x k) : InvOk n Z Y x k := by
  rcases h with ⟨h1, h2, _⟩ | ⟨_, h1, _⟩ | ⟨_, _, h1⟩
  · exact absurd (Wrong.unique h1 hx) h2
  · exact absurd hc h1
  · exact h1

/-- Inverse of 2 -/
theorem inv_lit1 {k : Nat} {Y : Nat → Nat → Int} {x : Int} (hb : 0 < k → ∀ j, 0 ≤ Y 0 j ∧ Y 0 j < 256) (h : InvOk 1 (fun _ _ => 2) Y x k) : x = 0 ∧ k = 1 ∧ Y 0 0 = 142 := by
  have e : La.ml (fi 2) (fi 142) = La.f1 := by
    rw [← fi_mul (by omega) (by omega)]
    rfl
  rcases h with ⟨_, _, h⟩ | ⟨h1, h2, h3⟩
  · exfalso
    apply h
    refine ⟨fun _ _ => fi 142, fun i j hi hj => ?_⟩
    obtain rfl : i = 0 := by omega
    obtain rfl : j = 0 := by omega
    show La.ad La.f0 (La.ml (fi 2) (fi 142)) = La.one 0 0
    rw [La.zero_add, e]; rfl
  · refine ⟨h1, h2, ?_⟩
    have h4 := h3 0 0 (by omega) (by omega)
    have h5 : La.ml (fi 2) (fi (Y 0 0)) = La.f1 := by
      have : La.ad La.f0 (La.ml (fi 2) (fi (Y 0 0))) = La.one 0 0 := h4
      rw [La.zero_add] at this; exact this
    apply fi_inj (hb (by omega) 0) (by omega)
    calc fi (Y 0 0) = La.ml La.f1 (fi (Y 0 0)) := (La.one_mul _).symm
      _ = La.ml (La.ml (fi 142) (fi 2)) (fi (Y 0 0)) := by rw [La.mul_comm (fi 142) (fi 2), e]
      _ = La.ml (fi 142) La.f1 := by rw [La.mul_assoc, h5]
      _ = fi 142 := La.mul_one _

/-- a matrix whose rows are alike has none -/
theorem inv_lit2 {k : Nat} {Z Y : Nat → Nat → Int} {x : Int} (hZ : ∀ i j, Z i j = 1) (h : InvOk 2 Z Y x k) : x = 20 ∧ k = 0 := by
  rcases h with ⟨h1, h2, _⟩ | ⟨_, _, h3⟩
  · exact ⟨h1, h2⟩
  · exfalso
    have h4 := h3 0 0 (by omega) (by omega)
    have h5 := h3 1 0 (by omega) (by omega)
    have e : La.mm 2 (fm Z) (fm Y) 0 0 = La.mm 2 (fm Z) (fm Y) 1 0 := by
      unfold La.mm fm
      exact La.sum_congr (fun t _ => by rw [hZ, hZ])
    rw [h4, h5] at e
    have := congrArg La.F8.v e
    revert this; decide

def c1 (_ : Nat) : Int := 1
def c01 (i : Nat) : Int := if i = 0 then 0 else 1
def cc (c : Int) (_ : Nat) : Int := c

theorem lit_col (w : World) (a b : Int) (ha : 0 ≤ a ∧ a < 256) (hb : 0 ≤ b ∧ b < 256) :
    MatAt (((w.alloc (.cells #[.int .u8 a] 5)).alloc (.cells #[.int .u8 b] 5)).alloc (.cells #[.slice (some ⟨w.heap.size, 0, none⟩) 1 1, .slice (some ⟨w.heap.size + 1, 0, none⟩) 1 1] 22)) (some ⟨w.heap.size + 2, 0, none⟩) 2
      (fun r => if r = 0 then some ⟨w.heap.size, 0, none⟩ else some ⟨w.heap.size + 1, 0, none⟩) (fun r => if r = 0 then 1 else 1) (fun r => if r = 0 then 1 else 1) (fun r => if r = 0 then cc a else cc b) ∧
    Bw w (((w.alloc (.cells #[.int .u8 a] 5)).alloc (.cells #[.int .u8 b] 5)).alloc (.cells #[.slice (some ⟨w.heap.size, 0, none⟩) 1 1, .slice (some ⟨w.heap.size + 1, 0, none⟩) 1 1] 22)) :=
  mat_lit2 w #[.int .u8 a] #[.int .u8 b] 1 1 (cc a) (cc b) (fun _ => ha) (fun _ => hb) (fun i hi => by obtain rfl : i = 0 := (by omega); rfl) (fun i hi => by obtain rfl : i = 0 := (by omega); rfl)

theorem lit_sq (w : World) (a b c d : Int) (f g : Nat → Int) (hf : ∀ i, 0 ≤ f i ∧ f i < 256) (hg : ∀ i, 0 ≤ g i ∧ g i < 256) (ha : f 0 = a) (hb : f 1 = b) (hc : g 0 = c) (hd : g 1 = d) :
    MatAt (((w.alloc (.cells #[.int .u8 a, .int .u8 b] 5)).alloc (.cells #[.int .u8 c, .int .u8 d] 5)).alloc (.cells #[.slice (some ⟨w.heap.size, 0, none⟩) 2 2, .slice (some ⟨w.heap.size + 1, 0, none⟩) 2 2] 22)) (some ⟨w.heap.size + 2, 0, none⟩) 2
      (fun r => if r = 0 then some ⟨w.heap.size, 0, none⟩ else some ⟨w.heap.size + 1, 0, none⟩) (fun r => if r = 0 then 2 else 2) (fun r => if r = 0 then 2 else 2) (fun r => if r = 0 then f else g) ∧
    Bw w (((w.alloc (.cells #[.int .u8 a, .int .u8 b] 5)).alloc (.cells #[.int .u8 c, .int .u8 d] 5)).alloc (.cells #[.slice (some ⟨w.heap.size, 0, none⟩) 2 2, .slice (some ⟨w.heap.size + 1, 0, none⟩) 2 2] 22)) := by
  subst ha hb hc hd
  exact mat_lit2 w #[.int .u8 (f 0), .int .u8 (f 1)] #[.int .u8 (g 0), .int .u8 (g 1)] 2 2 f g hf hg (fun i hi => by rcases (show i = 0 ∨ i = 1 by omega) with rfl | rfl <;> rfl) (fun i hi => by rcases (show i = 0 ∨ i = 1 by omega) with rfl | rfl <;> rfl)

theorem lit_one (w : World) (a : Int) (ha : 0 ≤ a ∧ a < 256) :
    MatAt ((w.alloc (.cells #[.int .u8 a] 5)).alloc (.cells #[.slice (some ⟨w.heap.size, 0, none⟩) 1 1] 22)) (some ⟨w.heap.size + 1, 0, none⟩) 1 (fun _ => some ⟨w.heap.size, 0, none⟩) (fun _ => 1) (fun _ => 1) (fun _ => cc a) ∧
    Bw w ((w.alloc (.cells #[.int .u8 a] 5)).alloc (.cells #[.slice (some ⟨w.heap.size, 0, none⟩) 1 1] 22)) :=
  mat_lit1 w #[.int .u8 a] 1 (cc a) (fun _ => ha) (fun i hi => by obtain rfl : i = 0 := (by omega); rfl)

theorem if_same (c : Nat) : ∀ r : Nat, (if r = 0 then c else c) = c := fun r => by split <;> rfl

theorem prod_lit (r : Nat) (hr : r < 2) : prodZ 2 (fun r => if r = 0 then c1 else c01) (fun r => if r = 0 then cc 5 else cc 3) r 0 = if r = 0 then 6 else 3 := by
  rcases (show r = 0 ∨ r = 1 by omega) with rfl | rfl <;> rfl

theorem same_lit : SameM 2 2 (fun _ => colsN 2 (fun r => if r = 0 then 1 else 1)) (fun r => if r = 0 then 1 else 1) (prodZ 2 (fun r => if r = 0 then c1 else c01) (fun r => if r = 0 then cc 5 else cc 3)) (fun r => if r = 0 then cc 6 else cc 3) := by
  refine ⟨rfl, fun r hr => ⟨show 1 = (if r = 0 then 1 else 1) from (if_same 1 r).symm, fun i hi => ?_⟩⟩
  have hi' : i < 1 := hi
  obtain rfl : i = 0 := by omega
  rw [prod_lit r hr]
  show _ = (if r = 0 then cc 6 else cc 3) 0
  split <;> rfl

set_option maxRecDepth 100000 in
set_option maxHeartbeats 1000000 in
theorem wakes2_any (w : World) : Calls Try.prog 9 #[] w fun e w' => e = .returned (.bool true) ∧ Bw w w' := by
  have b1 : ∀ i, 0 ≤ c1 i ∧ c1 i < 256 := fun _ => by unfold c1; omega
  have b01 : ∀ i, 0 ≤ c01 i ∧ c01 i < 256 := fun _ => by unfold c01; split <;> omega
  obtain ⟨hA, hwA⟩ := lit_sq w 1 1 0 1 c1 c01 b1 b01 rfl rfl rfl rfl
  obtain ⟨hB, hwB⟩ := lit_col _ 5 3 (by omega) (by omega)
  have hA' := hA.keep hwB
  have hw6 := hwA.trans hwB
  clear hA hwA hwB
  simp only [size_alloc] at hA' hB hw6
  have wa : Wrong 2 (fun r => if r = 0 then 2 else 2) 0 := wrong_lit (c := 2) (by omega) (by omega) (if_same 2)
  have wb : Wrong 2 (fun r => if r = 0 then 1 else 1) 0 := wrong_lit (c := 1) (by omega) (by omega) (if_same 1)
  have w1' : Wrong 1 (fun _ => 1) 0 := wrong_lit (c := 1) (by omega) (by omega) (fun _ => rfl)
  go_enter Try.func9, Try.ntmps9
  go_wp2_with (first
    | (go_at_call 17; refine (mul_all _ _ 2 2 _ _ _ _ _ _ _ _ _ _ _ hA' hB).mono ?_; rintro e w1 ⟨v, x, k, q, rfl, hres, hsay, hb1⟩; obtain ⟨rfl, rfl, rfl⟩ := mulsays_ok wa wb rfl hsay; obtain ⟨A1, cap1, R1, C1, rfl, hn1⟩ := hres; obtain ⟨hC, hwC⟩ := lit_one w1 2 (by omega); have hm1 := hn1.mat.keep hwC; have hw1 := (hw6.trans hb1).trans hwC; clear hsay hn1)
    | (go_at_call 22; refine (iv_all _ 1 _ _ _ _ _ _ hC).mono ?_; rintro e w2 ⟨v, x, k, Y, rfl, hres, hsay, hb2⟩; obtain ⟨A2, cap2, R2, C2, rfl, hn2⟩ := hres; obtain ⟨rfl, rfl, hY⟩ := inv_lit1 (fun hk => (hn2.mat.2 0 hk).2) (ivsays_ok w1' rfl hsay); obtain ⟨hD, hwD⟩ := lit_sq w2 1 1 1 1 c1 c1 b1 b1 rfl rfl rfl rfl; have hm2 := hn2.mat.keep hwD; have hm1b := (hm1.keep hb2).keep hwD; have hw2 := (hw1.trans hb2).trans hwD; clear hsay hn2 hC)
    | (go_at_call 22; refine (iv_all _ 2 _ _ _ _ _ _ hD).mono ?_; rintro e w3 ⟨v, x, k, Y3, rfl, hres, hsay, hb3⟩; obtain ⟨A3, cap3, R3, C3, rfl, hn3⟩ := hres; obtain ⟨rfl, rfl⟩ := inv_lit2 (fun i j => by split <;> rfl) (ivsays_ok wa rfl hsay); obtain ⟨hE, hwE⟩ := lit_col w3 6 3 (by omega) (by omega); have hm2c := (hm2.keep hb3).keep hwE; have hm1c := (hm1b.keep hb3).keep hwE; have hw3 := (hw2.trans hb3).trans hwE; clear hsay hn3 hD)
    | (go_at_call 18; refine (rsame_any A1 _ 2 2 cap1 _ R1 _ _ C1 _ _ _ _ (by omega) _ hm1c hE).mono ?_; rintro e w4 ⟨x, rfl, hx, hb4⟩; obtain rfl : x = true := hx.2 same_lit; obtain ⟨hF, hwF⟩ := lit_one w4 142 (by omega); have hm2d := (hm2c.keep hb4).keep hwF; have hw4 := (hw3.trans hb4).trans hwF; clear hE)
    | (go_at_call 18; refine (rsame_any A2 _ 1 1 cap2 _ R2 _ _ C2 _ _ _ _ (by omega) _ hm2d hF).mono ?_; rintro e w5 ⟨x, rfl, hx, hb5⟩; obtain rfl : x = true := hx.2 ⟨rfl, fun r hr => ⟨rfl, fun i hi => by have hi' : i < 1 := hi; obtain rfl : r = 0 := (by omega); obtain rfl : i = 0 := (by omega); exact hY⟩⟩))
  go_ret
  exact ⟨rfl, hw4.trans hb5⟩

end Go.Proofs.Ytpgjkhlffcomgaa
