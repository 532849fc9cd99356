/- Contracts of the program's own add and scale: a row of a work space turned in its place. -/
import Derived.Test.YtpgjkhlffcomgaaP1
namespace Go.Proofs.Ytpgjkhlffcomgaa
open Go.RowKit

attribute [local go_sem ↓] Go.wp_at_zero Go.wp_at_succ

/-- a block with a row's multiple added at o -/
def addF (F : Nat → Int) (o n : Nat) (c : Int) (f : Nat → Int) (k : Nat) : Int := if o ≤ k ∧ k < o + n then addI (F k) (mulI c (f (k - o))) else F k
/-- a block with a row multiplied at o -/
def sclF (F : Nat → Int) (o n : Nat) (c : Int) (k : Nat) : Int := if o ≤ k ∧ k < o + n then mulI c (F k) else F k

theorem mulI_zero (x : Int) (x0 : 0 ≤ x) (x1 : x < 256) : mulI 0 x = 0 := by
  apply fi_inj (mulI_bd 0 x (by omega)) (by omega)
  rw [fi_mul (by omega) ⟨x0, x1⟩, fi_zero, La.zero_mul]
theorem addI_zero (x : Int) (x0 : 0 ≤ x) (x1 : x < 256) : addI x 0 = x := by
  apply fi_inj (addI_bd x 0 x1 (by omega)) ⟨x0, x1⟩
  rw [fi_add ⟨x0, x1⟩ (by omega), fi_zero, La.add_zero]

theorem FnMul.keepx {S : Nat → Prop} {w w' : World} {f : Value} {g : Nat} {c : Int} (h : FnMul w f g c) (k : Bx S w w') (hg : ¬ S g) : FnMul w' f g c := by
  rcases h with ⟨h1, h2⟩ | ⟨h1, cur, h2, h3⟩
  · exact Or.inl ⟨h1, (k.block g (Array.getElem?_eq_some_iff.1 h2).1 hg).trans h2⟩
  · exact Or.inr ⟨h1, cur, (k.block g (Array.getElem?_eq_some_iff.1 h2).1 hg).trans h2, h3⟩

theorem cell_other' {w : World} {a b : Addr} {v : Value} (h : a ≠ b) : (w.setCell a v).cell? b = w.cell? b := by
  first | exact World.cell?_setCell_other h | exact World.cell?_setCell_other w h | exact World.cell?_setCell_other w a v h | exact World.cell?_setCell_other w a b v h | exact World.cell?_setCell_other _ _ _ _ h

theorem RowAt.put {w : World} {A : Option Addr} {n : Nat} {f : Nat → Int} (h : RowAt w A n f) {g o k : Nat} {v : Value} (hk : k < n) (hd : ∀ a, A = some a → a.block ≠ g ∨ a.off + n ≤ o ∨ o + n ≤ a.off) : RowAt (w.setCell ⟨g, o + k, none⟩ v) A n f := by
  refine ⟨?_, h.2⟩
  rcases h.1 with h0 | ⟨b, off, e, hc⟩
  · exact Or.inl h0
  · refine Or.inr ⟨b, off, e, fun i hi => ?_⟩
    have h1 := hd _ e
    simp only at h1
    exact (cell_other' (fun e => by simp only [Addr.mk.injEq] at e; omega)).trans (hc i hi)

theorem RowAt.drew {w : World} {A : Option Addr} {n : Nat} {f : Nat → Int} (h : RowAt w A n f) : RowAt w.drew A n f := h
theorem BlockIs.drew {w : World} {g n : Nat} {f : Nat → Int} (h : BlockIs w g n f) : BlockIs w.drew g n f := h
theorem FnMul.drew {w : World} {f : Value} {g : Nat} {c : Int} (h : FnMul w f g c) : FnMul w.drew f g c := h

theorem addF_bd {F : Nat → Int} {o n : Nat} {c : Int} {f : Nat → Int} (hF : ∀ i, 0 ≤ F i ∧ F i < 256) (c1 : c < 256) (k : Nat) : 0 ≤ addF F o n c f k ∧ addF F o n c f k < 256 := by
  unfold addF; split
  · exact addI_bd _ _ (hF k).2 (mulI_bd _ _ c1).2
  · exact hF k
theorem sclF_bd {F : Nat → Int} {o n : Nat} {c : Int} (hF : ∀ i, 0 ≤ F i ∧ F i < 256) (c1 : c < 256) (k : Nat) : 0 ≤ sclF F o n c k ∧ sclF F o n c k < 256 := by
  unfold sclF; split
  · exact mulI_bd _ _ c1
  · exact hF k

set_option maxRecDepth 100000 in
theorem add_any' (g o n N cap cb : Nat) (F f : Nat → Int) (B : Option Addr) (c : Int) (c0 : 0 ≤ c) (c1 : c < 256) (w : World) (hb : BlockIs w g N F) (hN : o + n ≤ N) (hn : n ≤ 1048576) (hF : ∀ i, 0 ≤ F i ∧ F i < 256)
    (hB : RowAt w B n f) (hd : ∀ a, B = some a → a.block ≠ g ∨ a.off + n ≤ o ∨ o + n ≤ a.off) :
    Calls Try.prog 30 #[.slice (some ⟨g, o, none⟩) n cap, .slice B n cb, .int .u8 c] w fun e w' => e = .returned (.tuple #[]) ∧ BlockIs w' g N (addF F o n c f) ∧ Bx (· = g) w w' := by
  by_cases hc : c = 0
  · subst hc
    go_enter Try.func30, Try.ntmps30
    go_wp2
    refine bodyPost_ret (results_none rfl _ _ _) rfl ?_
    refine ⟨rfl, hb.congr (fun k hk => ?_), Bx.refl _ _⟩
    unfold addF; split
    · rw [mulI_zero _ (hB.2 _).1 (hB.2 _).2, addI_zero _ (hF k).1 (hF k).2]
    · rfl
  · have hcb : (c == 0) = false := by simpa using hc
    go_enter Try.func30, Try.ntmps30
    go_wp2_with (go_at_call 40; refine (times_any _ _ (by omega) (by omega) _).mono ?_; rintro e w1 ⟨fv, gf, rfl, hfn, hgf, hb1⟩)
    go_loopw [17] (fun i wr => ∃ k : Nat, k ≤ n ∧ i = .int .i64 k ∧ BlockIs wr g N (addF F o k c f) ∧ RowAt wr B n f ∧ FnMul wr fv gf c ∧ Bx (· = g) w wr) (fun i _ => n - (intOf i).toNat)
    case atStart => exact ⟨0, Nat.zero_le _, rfl, (hb.keep hb1).congr (fun k hk => by unfold addF; rw [if_neg (by omega)]), hB.keep hb1, hfn, Bx.of_bw hb1⟩
    case round =>
      obtain ⟨k, hk, rfl, hbk, hBk, hfk, hw⟩ := hrel
      have hgl : g < w.heap.size := by obtain ⟨cur, hcur, _⟩ := hb; exact (Array.getElem?_eq_some_iff.1 hcur).1
      by_cases hlt : k < n
      · obtain ⟨b2, o2, e2, hc2⟩ := hBk.at hlt
        have h2 := hc2 k hlt
        have z2 := hB.2 k
        obtain ⟨h3, h4⟩ := hbk.cell (c := o + k) (by omega)
        have z3 := hF (o + k)
        have e3 : addF F o k c f (o + k) = F (o + k) := by unfold addF; rw [if_neg (by omega)]
        rw [e3] at h3
        have m3 := mulI_bd c (f k) c1
        have k0 : (0 : Int) ≤ (k : Int) := Int.natCast_nonneg _
        have k1 : (k : Int) < (n : Int) := by omega
        have hset : BlockIs (wr.setCell ⟨g, o + k, none⟩ (.int .u8 (addI (F (o + k)) (mulI c (f k))))) g N (addF F o (k + 1) c f) := hbk.set (by omega) (by unfold addF; rw [if_pos (by omega), Nat.add_sub_cancel_left]) (fun j hj hne => by unfold addF; (by_cases h : o ≤ j ∧ j < o + k); rw [if_pos h, if_pos (by omega)]; rw [if_neg h, if_neg (by omega)])
        have hrow : RowAt (wr.setCell ⟨g, o + k, none⟩ (.int .u8 (addI (F (o + k)) (mulI c (f k))))) B n f := hBk.put hlt hd
        have hwx : Bx (· = g) w (wr.setCell ⟨g, o + k, none⟩ (.int .u8 (addI (F (o + k)) (mulI c (f k))))) := hw.put rfl
        have hfx : FnMul (wr.setCell ⟨g, o + k, none⟩ (.int .u8 (addI (F (o + k)) (mulI c (f k))))) fv gf c := hfk.keepx ((Bx.refl (· = g) wr).put (j := o + k) rfl) (by omega)
        subst e2
        clear hc2 e3 hbk hBk hw
        rcases hfk with ⟨rfl, hcell⟩ | ⟨rfl, cur, hcur, hv⟩
        · go_wp2
          go_region_with (first | (go_at_call 46; refine (fn1_any c _ _ (by omega) (by omega) (by omega) (by omega) _ ?_).mono ?_; exact hcell; rintro e w' ⟨rfl, hw'⟩; subst w') | (go_at_call 31; refine (add_any _ _ (by omega) (by omega) (by omega) (by omega) _).mono ?_; rintro e w' ⟨rfl, hw'⟩; subst w'))
          all_goals
            go_wp2
            go_roundw
            case rel => exact ⟨k + 1, by omega, by go_num, hset.drew, hrow.drew, hfx.drew, hwx.drew⟩
            case measure => simp [intOf]; omega
        · go_wp2
          go_region_with (first | (go_at_call 47; refine (fn2_any c _ _ (by omega) (by omega) _ cur ?_ hv).mono ?_; exact hcur; rintro e w' ⟨rfl, hw'⟩; subst w') | (go_at_call 31; refine (add_any _ _ (by omega) (by omega) (by omega) (by omega) _).mono ?_; rintro e w' ⟨rfl, hw'⟩; subst w'))
          all_goals
            go_wp2
            go_roundw
            case rel => exact ⟨k + 1, by omega, by go_num, hset.drew, hrow.drew, hfx.drew, hwx.drew⟩
            case measure => simp [intOf]; omega
      · have ek : n = k := by omega
        subst ek
        go_wp2
        go_end0
        exact ⟨rfl, hbk, hw⟩

/-- the row's numbers, multiplied -/
theorem sclF_at {F : Nat → Int} {o k : Nat} {c : Int} : sclF F o (k + 1) c (o + k) = mulI c (F (o + k)) := by unfold sclF; rw [if_pos (by omega)]
theorem sclF_ne {F : Nat → Int} {o k j : Nat} {c : Int} (h : j ≠ o + k) : sclF F o (k + 1) c j = sclF F o k c j := by
  unfold sclF
  by_cases h' : o ≤ j ∧ j < o + k
  · rw [if_pos h', if_pos (by omega)]
  · rw [if_neg h', if_neg (by omega)]

set_option maxRecDepth 100000 in
theorem scale_any (g o n N cap : Nat) (F : Nat → Int) (c : Int) (c0 : 0 ≤ c) (c1 : c < 256) (w : World) (hb : BlockIs w g N F) (hN : o + n ≤ N) (hn : n ≤ 1048576) (hF : ∀ i, 0 ≤ F i ∧ F i < 256) :
    Calls Try.prog 43 #[.slice (some ⟨g, o, none⟩) n cap, .int .u8 c] w fun e w' => e = .returned (.tuple #[]) ∧ BlockIs w' g N (sclF F o n (invR c)) ∧ Bx (· = g) w w' := by
  have hi := invR_bd c
  go_enter Try.func43, Try.ntmps43
  go_wp2_with (first | (go_at_call 48; refine (inv_all _ (by omega) (by omega) _).mono ?_; rintro e w1 ⟨rfl, hw1⟩) | (go_at_call 40; refine (times_any _ _ (by omega) (by omega) _).mono ?_; rintro e w2 ⟨fv, gf, rfl, hfn, hgf, hb2⟩))
  have hgl : g < w.heap.size := by obtain ⟨cur, hcur, _⟩ := hb; exact (Array.getElem?_eq_some_iff.1 hcur).1
  have hb1 : Bw w w1 := hw1.1
  have hs1 := hb1.size
  go_loopw [20] (fun i wr => ∃ k : Nat, k ≤ n ∧ i = .int .i64 k ∧ BlockIs wr g N (sclF F o k (invR c)) ∧ FnMul wr fv gf (invR c) ∧ Bx (· = g) w wr) (fun i _ => n - (intOf i).toNat)
  case atStart => exact ⟨0, Nat.zero_le _, rfl, ((hb.keep hb1).keep hb2).congr (fun k hk => by unfold sclF; rw [if_neg (by omega)]), hfn, Bx.of_bw (hb1.trans hb2)⟩
  case round =>
    obtain ⟨k, hk, rfl, hbk, hfk, hw⟩ := hrel
    by_cases hlt : k < n
    · obtain ⟨h3, h4⟩ := hbk.cell (c := o + k) (by omega)
      have z3 := hF (o + k)
      have e3 : sclF F o k (invR c) (o + k) = F (o + k) := by unfold sclF; rw [if_neg (by omega)]
      rw [e3] at h3
      have k0 : (0 : Int) ≤ (k : Int) := Int.natCast_nonneg _
      have k1 : (k : Int) < (n : Int) := by omega
      have hset : BlockIs (wr.setCell ⟨g, o + k, none⟩ (.int .u8 (mulI (invR c) (F (o + k))))) g N (sclF F o (k + 1) (invR c)) := hbk.set (by omega) sclF_at (fun j hj hne => sclF_ne hne)
      have hwx : Bx (· = g) w (wr.setCell ⟨g, o + k, none⟩ (.int .u8 (mulI (invR c) (F (o + k))))) := hw.put rfl
      have hfx : FnMul (wr.setCell ⟨g, o + k, none⟩ (.int .u8 (mulI (invR c) (F (o + k))))) fv gf (invR c) := hfk.keepx ((Bx.refl (· = g) wr).put (j := o + k) rfl) (by omega)
      clear e3 hbk hw
      rcases hfk with ⟨rfl, hcell⟩ | ⟨rfl, cur, hcur, hv⟩
      · go_wp2_with (go_at_call 46; refine (fn1_any (invR c) _ _ (by omega) (by omega) (by omega) (by omega) _ ?_).mono ?_; exact hcell; rintro e w' ⟨rfl, hw'⟩; subst w')
        go_roundw
        case rel => exact ⟨k + 1, by omega, by go_num, hset, hfx, hwx⟩
        case measure => simp [intOf]; omega
      · go_wp2_with (go_at_call 47; refine (fn2_any (invR c) _ _ (by omega) (by omega) _ cur ?_ hv).mono ?_; exact hcur; rintro e w' ⟨rfl, hw'⟩; subst w')
        go_roundw
        case rel => exact ⟨k + 1, by omega, by go_num, hset, hfx, hwx⟩
        case measure => simp [intOf]; omega
    · have ek : n = k := by omega
      subst ek
      go_wp2
      go_end0
      exact ⟨rfl, hbk, hw⟩

end Go.Proofs.Ytpgjkhlffcomgaa
