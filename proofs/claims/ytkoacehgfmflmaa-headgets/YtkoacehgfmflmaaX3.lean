/- The statements' own turned, of layer 10 (written by mkturned10.py). -/
import Derived.Test.YtkoacehgfmflmaaX2
import Derived.Test.YtkoacehgfmflmaaFh
namespace Go.Proofs.Ytkoacehgfmflmaa
open Go.RowKit Go.Deep
set_option linter.unusedVariables false
set_option linter.unusedSimpArgs false

/-- a row that may be read: where it lies, how long, what it holds -/
structure Rd (w : World) (v : Value) (l : Hd.B) : Prop where
  ex : ∃ A cap, v = .slice A l.length cap ∧ l.length ≤ cap ∧ RowAt w A l.length (Hd.rowF l) ∧ (A = none → cap = 0)
theorem own_setC {w : World} {g : Nat} {l : Hd.B} (h : Own w g 512 (Hd.rowF l)) (hl : l.length = 512) {j : Nat} (hj : j < 512) (c : UInt8) : Own (w.setCell ⟨g, j, none⟩ (.int .u8 ((c.toNat : Nat) : Int))) g 512 (Hd.rowF (l.set j c)) := by
  refine h.set hj (Hd.rowF_at (by rw [List.getElem?_set_self (by omega)])) (fun i hi hne => ?_)
  unfold Hd.rowF
  rw [List.getD_eq_getElem?_getD, List.getD_eq_getElem?_getD, List.getElem?_set_ne (Ne.symm hne)]
theorem own_gb {w : World} {base : Nat} {v : Value} {L : Hd.B} (h : GB w base v L) (hn : L.length = 512) : ∃ g cap, v = .slice (some ⟨g, 0, none⟩) 512 cap ∧ 512 ≤ cap ∧ base ≤ g ∧ Own w g 512 (Hd.rowF L) := by
  unfold GB at h
  rw [← Hd.cells_row, hn] at h
  obtain ⟨g, c, hv, hb, h1, h2, h3⟩ := Own.of h (by omega)
  exact ⟨g, c, hv, h1, hb, h3⟩
theorem cell_far10 {w : World} {g b p o : Nat} {v : Value} (h : ¬ b = g) : (w.setCell ⟨g, p, none⟩ v).drew.cell? ⟨b, o, none⟩ = w.cell? ⟨b, o, none⟩ :=
  World.cell?_of_block (heap_setCell_other w ⟨g, p, none⟩ b v (by simpa using h))
set_option maxRecDepth 100000 in
set_option maxHeartbeats 8000000 in
theorem turned_bad (h : Hd.Hdr) (hsm : Hd.Small h) (M : Nat) (hM : Hid (M = Hd.may h)) (hm : M ≠ 0) (A : Option Addr) (n ca : Nat) (T : Nat → Int) (C : Nat → UInt8) (s : Bool) (B : Option Addr) (m cb : Nat) (w : World) :
    Calls Try.prog 14 #[.agg (Hd.hv h), .slice A n ca, .bool s, .slice B m cb] w fun e w' => e = .returned (.slice B m cb) ∧ Bw w w' := by
  obtain ⟨W1, hW1⟩ : ∃ V, V = w.alloc (.cells (Hd.hv h) 23) := ⟨_, rfl⟩
  have hH1 : HeadAt W1 w.heap.size h := by rw [hW1]; exact headat_new _ _
  have hb1 : Bw w W1 := by rw [hW1]; exact bw_alloc7 (Bw.refl _) _
  have HM : Hid (Hd.may h ≠ 0) := by rw [← hM.out]; exact hm
  have em : ((M : Int) != 0) = true := by rw [bne_iff_ne]; omega
  clear hm
  go_enter Try.func14, Try.ntmps14
  go_wp2_with (first
    | (rw [← hW1]; clear hW1; refine wpList_load_row rfl 23 _ rfl w.heap.size rfl 23 (Hd.hv h) (0, 0) _ hH1 Try.underlying23 rfl (info_head h) ?_)
    | (go_at_call 10; refine (rPut_any h hsm _).mono ?_; rintro e w3 ⟨h3, -, hw3⟩; obtain rfl := h3 HM.out; rw [← hM.out]))
  go_ret
  exact ⟨rfl, hb1.trans hw3⟩
/-- what turned answers of a head that may be -/
def TurnSays (w : World) (e : Ending) (w' : World) : Prop := ∃ (g cap : Nat) (l : Hd.B), e = .returned (.slice (some ⟨g, 0, none⟩) 512 cap) ∧ 512 ≤ cap ∧ l.length = 512 ∧ RowAt w' (some ⟨g, 0, none⟩) 512 (Hd.rowF l) ∧ Bw w w'
set_option maxRecDepth 100000 in
set_option maxHeartbeats 8000000 in
theorem turned_good (h : Hd.Hdr) (hsm : Hd.Small h) (hg : Hd.Good h) (A : Option Addr) (n ca : Nat) (T : Nat → Int) (C : Nat → UInt8) (s : Bool) (B : Option Addr) (m cb : Nat) (w : World) (ht : InTurns w A n ca T C) :
    Calls Try.prog 14 #[.agg (Hd.hv h), .slice A n ca, .bool s, .slice B m cb] w fun e w' => TurnSays w e w' := by
  obtain ⟨W1, hW1⟩ : ∃ V, V = w.alloc (.cells (Hd.hv h) 23) := ⟨_, rfl⟩
  have hH1 : HeadAt W1 w.heap.size h := by rw [hW1]; exact headat_new _ _
  have hb1 : Bw w W1 := by rw [hW1]; exact bw_alloc7 (Bw.refl _) _
  have HM : Hid (Hd.may h = 0) := Hd.good_may hg
  have HL : Hid ((Hd.layB h).length = 512) := Hd.lay_len hg
  have HT : Hid (InTurns w A n ca T C) := ht
  have hn : n ≤ 140737488351232 := ht.small
  clear ht
  go_enter Try.func14, Try.ntmps14
  go_wp2_with (first
    | (rw [← hW1]; clear hW1; refine wpList_load_row rfl 23 _ rfl w.heap.size rfl 23 (Hd.hv h) (0, 0) _ hH1 Try.underlying23 rfl (info_head h) ?_)
    | (go_at_call 10; refine (rPut_any h hsm _).mono ?_; rintro e w3 ⟨-, h3, hw3⟩; obtain ⟨v, rfl, g3⟩ := h3 HM.out; have hb3 := hb1.trans hw3; obtain ⟨g, cap, rfl, hcap, hgb, ho3⟩ := own_gb g3 HL.out; have HG : Hid (w.heap.size ≤ g) := (by have := hb1.size; show _ ≤ _; omega); clear g3))
  have HO3 : Hid (Own w3 g 512 (Hd.rowF (Hd.layB h))) := ho3
  clear ho3
  go_loopw [11] (fun i wr => ∃ (k : Nat) (l : Hd.B), k ≤ n ∧ i = .int .i64 (k : Int) ∧ Hid (l.length = 512) ∧ Hid (Own wr g 512 (Hd.rowF l)) ∧ Bw w wr) (fun i _ => n - (intOf i).toNat)
  case atStart => exact ⟨0, Hd.layB h, Nat.zero_le _, rfl, HL.out, HO3.out, hb3⟩
  case round =>
    obtain ⟨k, l, hk, rfl, hl, ho, hbr⟩ := hrel
    have k0 : (0 : Int) ≤ (k : Int) := Int.natCast_nonneg _
    by_cases hlt : k < n
    · have t1 : (k : Int) < (n : Int) := by omega
      rcases (HT.out.keep hbr).at_ with h0 | ⟨b, off, rfl, hc⟩
      · omega
      obtain ⟨c1, c2'⟩ := hc k hlt
      have c2 : wr.cell? ⟨b, off + k * 2 + 1, none⟩ = some (.int .u8 (((C k).toNat : Nat) : Int)) := c2'
      clear c2'
      obtain ⟨b1, b2⟩ := HT.out.bd k hlt
      have hob : Hid (Own wr.drew g 512 (Hd.rowF l)) := ho.out.keep (Below.refl _ _).drew
      have hne : ¬ b = g := fun e => by
        have e1 := HT.out.at_
        rcases e1 with h0 | ⟨b', off', e2, hc'⟩
        · omega
        · cases e2
          have := block_lt_of_cell (hc' k hlt).1
          have := HG.out
          simp only at *
          omega
      clear hc
      have hk1 : ∀ x, (wr.setCell ⟨g, x, none⟩ (.int .u8 (((C k).toNat : Nat) : Int))).drew.cell? ⟨b, off + k * 2, none⟩ = some (.int .i64 (T k)) := fun x => (cell_far10 hne).trans c1
      have hk2 : ∀ x, (wr.setCell ⟨g, x, none⟩ (.int .u8 (((C k).toNat : Nat) : Int))).drew.cell? ⟨b, off + k * 2 + 1, none⟩ = some (.int .u8 (((C k).toNat : Nat) : Int)) := fun x => (cell_far10 hne).trans c2
      have HK : Hid (∀ x, (wr.setCell ⟨g, x, none⟩ (.int .u8 (((C k).toNat : Nat) : Int))).drew.cell? ⟨b, off + k * 2, none⟩ = some (.int .i64 (T k)) ∧ (wr.setCell ⟨g, x, none⟩ (.int .u8 (((C k).toNat : Nat) : Int))).drew.cell? ⟨b, off + k * 2 + 1, none⟩ = some (.int .u8 (((C k).toNat : Nat) : Int))) := fun x => ⟨hk1 x, hk2 x⟩
      clear hk1 hk2
      go_wp2
      go_region_held3 (fun w' => w'.cell? ⟨b, off + k * 2, none⟩ = some (.int .i64 (T k)) ∧ w'.cell? ⟨b, off + k * 2 + 1, none⟩ = some (.int .u8 (((C k).toNat : Nat) : Int)))
        (first | exact HK.out _ | exact ⟨c1, c2⟩ | go_keep)
        (first | (go_at_call 26; refine (place_any (T k) b1 b2 _).mono ?_; rintro e w' ⟨p, hp, rfl, hw'⟩; subst w'; obtain ⟨cp, fp⟩ := hob.out.cell (c := p) hp; have p0 : (0 : Int) ≤ (p : Int) := Int.natCast_nonneg _; have p1 : (p : Int) < 512 := (by omega)))
      go_wp2
      go_roundw
      case rel => exact ⟨k + 1, l.set p (C k), by omega, by go_num, by show _ = _; rw [List.length_set]; exact hl.out, own_setC hob.out hl.out hp (C k), (hbr.trans (Below.refl _ _).drew).put HG.out _ _⟩
      case measure => simp [intOf]; omega
    · have t1 : ¬ (k : Int) < (n : Int) := by omega
      have hrow := ho.out.row (Hd.rowF_bd l)
      cases s with
      | true =>
        go_wp2_with (go_at_call 24; refine (rSeal_any _ cap l hl.out hcap _ hrow).mono ?_; rintro e w5 ⟨v5, rfl, g5, hw5⟩)
        go_ret
        have hls : (Hd.sealB l).length = 512 := by rw [Hd.seal_len (by rw [hl.out]; omega), hl.out]
        obtain ⟨g6, cap6, rfl, hcap6, hgb6, ho6⟩ := own_gb g5 hls
        exact ⟨g6, cap6, Hd.sealB l, rfl, hcap6, hls, ho6.row (Hd.rowF_bd _), hbr.trans hw5⟩
      | false =>
        go_wp2
        go_ret
        exact ⟨g, cap, l, rfl, hcap, hl.out, hrow, hbr⟩
end Go.Proofs.Ytkoacehgfmflmaa
