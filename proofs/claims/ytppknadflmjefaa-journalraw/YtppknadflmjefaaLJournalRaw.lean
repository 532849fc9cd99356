/- Proved: for every row of bytes and every run the statement JournalRaw answers true (the document's P15.1: whatever bytes stand in a region, they are opened as the journal that they are, or refused, and what is then added or written anew is told as the document's own journal tells it), with no condition but the reach. -/
import Derived.Test.YtppknadflmjefaaQp
import Derived.Test.YtppknadflmjefaaFj
import Derived.ShutString
import Derived.ChangeOld
namespace Go.Proofs.Ytppknadflmjefaa.journalRaw
open Go.ChangeShapes Go.WideShapes Go.ChangeAt Go.RowKit
set_option linter.unusedVariables false

open Go.Deep
def rawNo : Ac15 := ⟨2, 0, 0, none, 0, 0, fun _ => none, fun _ => 0, fun _ => 0, fun _ _ => 0, none, 0, 0, fun _ => 0, none, 0, 0, fun _ => 0⟩
def rawAdd (m b : Nat) : Ac15 := ⟨0, 0, 0, some ⟨m, 0, none⟩, 1, 1, fun _ => some ⟨b, 0, none⟩, fun _ => 1, fun _ => 1, fun _ _ => 120, none, 0, 0, fun _ => 0, none, 0, 0, fun _ => 0⟩
def rawRew (m b : Nat) : Ac15 := ⟨1, 0, 0, some ⟨m, 0, none⟩, 2, 2, fun r => if r = 0 then some ⟨b, 0, none⟩ else none, fun r => if r = 0 then 1 else 0, fun r => if r = 0 then 1 else 0, fun _ _ => 121, none, 0, 0, fun _ => 0, none, 0, 0, fun _ => 0⟩
def rawX (m1 b1 m2 b2 : Nat) : Nat → Ac15 := fun i => if i = 0 then rawAdd m1 b1 else if i = 2 then rawRew m2 b2 else rawNo
def rawCells (m1 m2 : Nat) : Array Value := #[.int .i64 0, .int .i64 0, .int .i64 0, .slice (some ⟨m1, 0, none⟩) 1 1, .slice none 0 0, .slice none 0 0, .int .i64 2, .int .i64 0, .int .i64 0, .slice none 0 0, .slice none 0 0, .slice none 0 0, .int .i64 1, .int .i64 0, .int .i64 0, .slice (some ⟨m2, 0, none⟩) 2 2, .slice none 0 0, .slice none 0 0, .int .i64 2, .int .i64 0, .int .i64 0, .slice none 0 0, .slice none 0 0, .slice none 0 0]
theorem raw_less {w : World} {A : Option Addr} {L m : Nat} {f : Nat → Int} (h : RowAt w A L f) (hm : m ≤ L) : RowAt w A m f :=
  ⟨h.1.elim (fun e => .inl (by omega)) (fun ⟨b, o, e, hc⟩ => .inr ⟨b, o, e, fun i hi => hc i (Nat.lt_of_lt_of_le hi hm)⟩), h.2⟩
theorem rawNo_in (W : World) : AcIn15 W rawNo :=
  ⟨⟨⟨.inl rfl, fun r hr => absurd hr (Nat.not_lt_zero r)⟩, Nat.le_refl _, by decide, fun r hr => absurd hr (Nat.not_lt_zero r), fun _ => rfl⟩, ⟨⟨.inl rfl, fun _ => by show (-9223372036854775808 : Int) ≤ 0 ∧ (0 : Int) ≤ 9223372036854775807; decide⟩, Nat.le_refl _, by decide⟩, ⟨⟨.inl rfl, fun _ => by show (0 : Int) ≤ 0 ∧ (0 : Int) < 256; decide⟩, Nat.le_refl _, by decide, fun _ => rfl⟩, by decide, by decide, by decide⟩
theorem rawAdd_in {W : World} {m b : Nat} {f1 f2 : Nat × Nat} (h1 : W.heap[b]? = some (.cells #[.int .u8 120] 5 f1)) (h2 : W.heap[m]? = some (.cells #[.slice (some ⟨b, 0, none⟩) 1 1] 37 f2)) : AcIn15 W (rawAdd m b) := by
  refine ⟨⟨⟨.inr ⟨m, 0, rfl, fun i hi => ?_⟩, fun r hr => ⟨.inr ⟨b, 0, rfl, fun i hi => ?_⟩, fun _ => by show (0 : Int) ≤ 120 ∧ (120 : Int) < 256; decide⟩⟩, Nat.le_refl _, by show 1 * 24 ≤ 140737488351232; decide, fun r hr => ⟨Nat.le_refl _, by show 1 ≤ 140737488351232; decide, fun e => by cases e⟩, fun e => by cases e⟩, ⟨⟨.inl rfl, fun _ => by show (-9223372036854775808 : Int) ≤ 0 ∧ (0 : Int) ≤ 9223372036854775807; decide⟩, Nat.le_refl _, by show 0 * 8 ≤ 140737488351232; decide⟩, ⟨⟨.inl rfl, fun _ => by show (0 : Int) ≤ 0 ∧ (0 : Int) < 256; decide⟩, Nat.le_refl _, by show 0 ≤ 140737488351232; decide, fun _ => rfl⟩, by show (-9223372036854775808 : Int) ≤ 0 ∧ (0 : Int) ≤ 9223372036854775807; decide, by show (-9223372036854775808 : Int) ≤ 0 ∧ (0 : Int) ≤ 9223372036854775807; decide, by show (-9223372036854775808 : Int) ≤ 0 ∧ (0 : Int) ≤ 9223372036854775807; decide⟩
  · have hi' : i < 1 := hi
    obtain rfl : i = 0 := by omega
    exact cell_of_row W m 0 _ _ _ h2
  · have hi' : i < 1 := hi
    obtain rfl : i = 0 := by omega
    exact cell_of_row W b 0 _ _ _ h1
theorem rawRew_in {W : World} {m b : Nat} {f1 f2 : Nat × Nat} (h1 : W.heap[b]? = some (.cells #[.int .u8 121] 5 f1)) (h2 : W.heap[m]? = some (.cells #[.slice (some ⟨b, 0, none⟩) 1 1, .slice none 0 0] 37 f2)) : AcIn15 W (rawRew m b) := by
  refine ⟨⟨⟨.inr ⟨m, 0, rfl, fun i hi => ?_⟩, fun r hr => ?_⟩, Nat.le_refl _, by show 2 * 24 ≤ 140737488351232; decide, fun r hr => ?_, fun e => by cases e⟩, ⟨⟨.inl rfl, fun _ => by show (-9223372036854775808 : Int) ≤ 0 ∧ (0 : Int) ≤ 9223372036854775807; decide⟩, Nat.le_refl _, by show 0 * 8 ≤ 140737488351232; decide⟩, ⟨⟨.inl rfl, fun _ => by show (0 : Int) ≤ 0 ∧ (0 : Int) < 256; decide⟩, Nat.le_refl _, by show 0 ≤ 140737488351232; decide, fun _ => rfl⟩, by show (-9223372036854775808 : Int) ≤ 1 ∧ (1 : Int) ≤ 9223372036854775807; decide, by show (-9223372036854775808 : Int) ≤ 0 ∧ (0 : Int) ≤ 9223372036854775807; decide, by show (-9223372036854775808 : Int) ≤ 0 ∧ (0 : Int) ≤ 9223372036854775807; decide⟩
  · have hi' : i < 2 := hi
    rcases i with _ | _ | i
    · exact cell_of_row W m 0 _ _ _ h2
    · exact cell_of_row W m 1 _ _ _ h2
    · omega
  · have hr' : r < 2 := hr
    have hb : ∀ i : Nat, (0 : Int) ≤ 121 ∧ (121 : Int) < 256 := fun _ => by decide
    rcases r with _ | _ | r
    · refine ⟨.inr ⟨b, 0, rfl, fun i hi => ?_⟩, hb⟩
      have hi' : i < 1 := hi
      obtain rfl : i = 0 := by omega
      exact cell_of_row W b 0 _ _ _ h1
    · exact ⟨.inl rfl, hb⟩
    · omega
  · have hr' : r < 2 := hr
    rcases r with _ | _ | r
    · exact ⟨Nat.le_refl _, by show 1 ≤ 140737488351232; decide, fun e => by cases e⟩
    · exact ⟨Nat.le_refl _, by show 0 ≤ 140737488351232; decide, fun e => rfl⟩
    · omega
theorem raw_acts {W : World} {m1 b1 m2 b2 q : Nat} {f1 f2 f3 f4 f5 : Nat × Nat} (h1 : W.heap[b1]? = some (.cells #[.int .u8 120] 5 f1)) (h2 : W.heap[m1]? = some (.cells #[.slice (some ⟨b1, 0, none⟩) 1 1] 37 f2)) (h3 : W.heap[b2]? = some (.cells #[.int .u8 121] 5 f3)) (h4 : W.heap[m2]? = some (.cells #[.slice (some ⟨b2, 0, none⟩) 1 1, .slice none 0 0] 37 f4)) (h5 : W.heap[q]? = some (.cells (rawCells m1 m2) 44 f5)) : InActs15 W (some ⟨q, 0, none⟩) 4 4 (rawX m1 b1 m2 b2) := by
  refine ⟨.inr ⟨q, 0, rfl, fun i hi k v hv => ?_⟩, fun i hi => ?_, Nat.le_refl _, by decide⟩
  · rw [cell_of_row W q (0 + i * 6 + k) _ _ _ h5]
    rcases i with _ | _ | _ | _ | i
    · rcases k with _ | _ | _ | _ | _ | _ | k
      all_goals first | exact hv | cases hv
    · rcases k with _ | _ | _ | _ | _ | _ | k
      all_goals first | exact hv | cases hv
    · rcases k with _ | _ | _ | _ | _ | _ | k
      all_goals first | exact hv | cases hv
    · rcases k with _ | _ | _ | _ | _ | _ | k
      all_goals first | exact hv | cases hv
    · omega
  · rcases i with _ | _ | _ | _ | i
    · exact rawAdd_in h1 h2
    · exact rawNo_in W
    · exact rawRew_in h3 h4
    · exact rawNo_in W
    · omega
theorem by_const3 (w : World) (o1 o2 : Obj) (C : Array Value) (n c : Nat) : (convert 37 37 (.slice (some ⟨w.heap.size + 1 + 1, 0, none⟩) n c)).run Try.prog (((w.alloc o1).alloc o2).alloc (.cells C 5)) = .ok (.slice (some ⟨w.heap.size + 1 + 1, 0, none⟩) n c) (((w.alloc o1).alloc o2).alloc (.cells C 5 (C.size, C.size + 1))) := by
  have := Lib.run_convert_bytes_const (P := Try.prog) ((w.alloc o1).alloc o2) 37 5 C n c Try.underlying37 Try.underlying5
  rwa [size_alloc, size_alloc] at this
/-- the four acts as they are written -/
abbrev rawW (w : World) (f1 f3 : Nat × Nat) : World := ((((w.alloc (.cells #[.int .u8 120] 5 f1)).alloc (.cells #[.slice (some ⟨w.heap.size, 0, none⟩) 1 1] 37)).alloc (.cells #[.int .u8 121] 5 f3)).alloc (.cells #[.slice (some ⟨w.heap.size + 1 + 1, 0, none⟩) 1 1, .slice none 0 0] 37)).alloc (.cells (rawCells (w.heap.size + 1) (w.heap.size + 1 + 1 + 1)) 44)
theorem raw_lit (w : World) (f1 f3 : Nat × Nat) : Bw w (rawW w f1 f3) ∧ ∀ W : World, (∀ b, w.heap.size ≤ b → b < w.heap.size + 5 → W.heap[b]? = (rawW w f1 f3).heap[b]?) → InActs15 W (some ⟨w.heap.size + 1 + 1 + 1 + 1, 0, none⟩) 4 4 (rawX (w.heap.size + 1) w.heap.size (w.heap.size + 1 + 1 + 1) (w.heap.size + 1 + 1)) := by
  unfold rawW
  obtain ⟨W1, h1⟩ : ∃ W1, w.alloc (.cells #[.int .u8 120] 5 f1) = W1 := ⟨_, rfl⟩
  have s1 : W1.heap.size = w.heap.size + 1 := by rw [← h1]; exact size_alloc _ _
  have b1 : W1.heap[w.heap.size]? = some (.cells #[.int .u8 120] 5 f1) := by rw [← h1]; exact heap_alloc_new _ _
  have k1 : Bw w W1 := by rw [← h1]; exact Below.alloc (Bw.refl _) (Nat.le_refl _) _
  rw [h1, ← s1]
  obtain ⟨W2, h2⟩ : ∃ W2, W1.alloc (.cells #[.slice (some ⟨w.heap.size, 0, none⟩) 1 1] 37) = W2 := ⟨_, rfl⟩
  have s2 : W2.heap.size = W1.heap.size + 1 := by rw [← h2]; exact size_alloc _ _
  have b2 : W2.heap[W1.heap.size]? = some (.cells #[.slice (some ⟨w.heap.size, 0, none⟩) 1 1] 37 (0, 0)) := by rw [← h2]; exact heap_alloc_new _ _
  have k2 : Bw W1 W2 := by rw [← h2]; exact Below.alloc (Bw.refl _) (Nat.le_refl _) _
  rw [h2, ← s2]
  obtain ⟨W3, h3⟩ : ∃ W3, W2.alloc (.cells #[.int .u8 121] 5 f3) = W3 := ⟨_, rfl⟩
  have s3 : W3.heap.size = W2.heap.size + 1 := by rw [← h3]; exact size_alloc _ _
  have b3 : W3.heap[W2.heap.size]? = some (.cells #[.int .u8 121] 5 f3) := by rw [← h3]; exact heap_alloc_new _ _
  have k3 : Bw W2 W3 := by rw [← h3]; exact Below.alloc (Bw.refl _) (Nat.le_refl _) _
  rw [h3, ← s3]
  obtain ⟨W4, h4⟩ : ∃ W4, W3.alloc (.cells #[.slice (some ⟨W2.heap.size, 0, none⟩) 1 1, .slice none 0 0] 37) = W4 := ⟨_, rfl⟩
  have s4 : W4.heap.size = W3.heap.size + 1 := by rw [← h4]; exact size_alloc _ _
  have b4 : W4.heap[W3.heap.size]? = some (.cells #[.slice (some ⟨W2.heap.size, 0, none⟩) 1 1, .slice none 0 0] 37 (0, 0)) := by rw [← h4]; exact heap_alloc_new _ _
  have k4 : Bw W3 W4 := by rw [← h4]; exact Below.alloc (Bw.refl _) (Nat.le_refl _) _
  rw [h4, ← s4]
  obtain ⟨W5, h5⟩ : ∃ W5, W4.alloc (.cells (rawCells W1.heap.size W3.heap.size) 44) = W5 := ⟨_, rfl⟩
  have b5 : W5.heap[W4.heap.size]? = some (.cells (rawCells W1.heap.size W3.heap.size) 44 (0, 0)) := by rw [← h5]; exact heap_alloc_new _ _
  have k5 : Bw W4 W5 := by rw [← h5]; exact Below.alloc (Bw.refl _) (Nat.le_refl _) _
  rw [h5]
  refine ⟨(((k1.trans k2).trans k3).trans k4).trans k5, fun W hW => ?_⟩
  have k25 := ((k3.trans k4).trans k5)
  exact raw_acts ((hW w.heap.size (by omega) (by omega)).trans (((k2.trans k25).block _ (by omega)).trans b1)) ((hW W1.heap.size (by omega) (by omega)).trans ((k25.block _ (by omega)).trans b2)) ((hW W2.heap.size (by omega) (by omega)).trans (((k4.trans k5).block _ (by omega)).trans b3)) ((hW W3.heap.size (by omega) (by omega)).trans ((k5.block _ (by omega)).trans b4)) ((hW W4.heap.size (by omega) (by omega)).trans b5)
theorem wrote_new {n k L : Nat} (f : Nat → Int) (h : k ≤ n) (hL : L = k * 64) : ((Dsk.new n).wrote 0 L f).1 = 0 ∧ ((Dsk.new n).wrote 0 L f).2.n = n := by
  unfold Dsk.wrote
  have h4 : (0 : Int) ≤ 0 ∧ (0 : Int) + ((L / 64 : Nat) : Int) ≤ (Dsk.new n).n := ⟨Int.le_refl _, by show (0 : Int) + ((L / 64 : Nat) : Int) ≤ (n : Int); omega⟩
  rw [if_neg (show ¬ (Dsk.new n).dead = true from fun e => by cases e), if_neg (show ¬ L % 64 ≠ 0 by omega), if_neg (Decidable.not_not.2 h4), if_neg (show ¬ (Dsk.new n).fuse = 0 from fun e => by cases e)]
  exact ⟨rfl, rfl⟩
set_option maxRecDepth 100000 in
set_option maxHeartbeats 8000000 in
theorem walk (a0 : Option Addr) (len0 cap0 : Nat) (f0 : Nat → Int) (x1 y1 : Int) (w : World) (w0 : InRow w a0 len0 cap0 f0) (w1 : (-9223372036854775808 ≤ x1 ∧ x1 < 9223372036854775808) ∧ (-9223372036854775808 ≤ y1 ∧ y1 < 9223372036854775808)) :
    Calls Try.prog 4 #[.slice a0 len0 cap0, .agg #[.int .i64 x1, .int .i64 y1]] w fun e w' => e = .returned (.bool true) ∧ Below w.heap.size w w' := by
  obtain ⟨bx, bY⟩ := w1
  obtain ⟨W0, hW0⟩ : ∃ W, Hid (w.alloc (.cells #[.int .i64 x1, .int .i64 y1] 23) = W) := ⟨_, rfl⟩
  obtain ⟨z, hz⟩ : ∃ z, Hid (w.heap.size = z) := ⟨_, rfl⟩
  have hb0 : Bw w W0 := by rw [← hW0.out]; exact Below.alloc (Bw.refl _) (Nat.le_refl _) _
  have hg0 : W0.heap[z]? = some (.cells #[.int .i64 x1, .int .i64 y1] 23 (0, 0)) := by rw [← hW0.out, ← hz.out]; exact heap_alloc_new _ _
  have HZ : Hid (∀ W, Bw W0 W → W.cell? ⟨z, 0, none⟩ = some (.int .i64 x1) ∧ W.cell? ⟨z, 1, none⟩ = some (.int .i64 y1)) := fun W k => by
    have hg := (k.block z (Array.getElem?_eq_some_iff.1 hg0).1).trans hg0
    exact ⟨cell_of_row W z 0 _ _ _ hg, cell_of_row W z 1 _ _ _ hg⟩
  have hle := w0.le
  have hroom := w0.room
  have hnil := w0.nil
  have HR0 : Hid (RowAt W0 a0 len0 f0) := w0.row.keep hb0
  have HB0 : Hid (Bw w W0) := hb0
  clear w0 hg0 hb0
  have k0 : (0 : Int) ≤ (len0 : Int) := Int.natCast_nonneg _
  obtain ⟨k, hk⟩ : ∃ k : Nat, k = len0 / 64 := ⟨_, rfl⟩
  have e1 : (len0 : Int) / 64 = (k : Int) := by omega
  by_cases hs : 64 < k
  · have e2 : max (1 : Int) (k : Int) = (k : Int) := by omega
    have kb : (k : Int) ≤ 140737488351232 := by omega
    clear HZ HR0 bx bY hnil hk
    go_enter Try.func4, Try.ntmps4
    go_wp2_with (first
      | rw [hW0.out, hz.out]
      | (go_at_call 9; refine (wakes15_any _).mono ?_; rintro e w6 ⟨rfl, hb6⟩))
    all_goals (go_ret; exact ⟨rfl, HB0.out.trans hb6⟩)
  obtain ⟨n, hn⟩ : ∃ n : Nat, n = max 1 k := ⟨_, rfl⟩
  have e2 : max (1 : Int) (k : Int) = (n : Int) := by omega
  have n1 : 1 ≤ n := by omega
  have n2 : n ≤ 64 := by omega
  have HM := rnew_ok n n1 (by omega)
  have HN := new_ok n n1 (by omega)
  obtain ⟨L, hL⟩ : ∃ L : Nat, L = k * 64 := ⟨_, rfl⟩
  have e3 : (k : Int) * 64 = (L : Int) := by omega
  have L1 : L ≤ len0 := by omega
  obtain ⟨S1, hS1⟩ : ∃ S : Dsk, Hid (((Dsk.new n).wrote 0 L f0).2 = S) := ⟨_, rfl⟩
  have hwn := wrote_new (n := n) f0 (show k ≤ n by omega) hL
  have hE : Hid (((Dsk.new n).wrote 0 L f0).1 = 0) := hwn.1
  have hRow : Hid (RowAt W0 a0 L f0) := raw_less HR0.out L1
  clear hwn hs hk hn hL HR0
  go_enter Try.func4, Try.ntmps4
  go_upto_region 9 with (first
    | rw [hW0.out, hz.out]
    | (go_at_call 10; refine (HN W0).mono ?_; rintro e w2 ⟨g, lb, gm, rfl, hd2, hge2, hb2⟩; clear HN)
    | (go_at_call 11; refine (HM w2).mono ?_; rintro e w3 ⟨gd, cb, cap, LV, WV, rfl, hr3, hge3, hb3⟩; clear HM; skip))
  have kal : Bw w3 (w3.alloc (.cells #[] 5)) := Below.alloc (Bw.refl _) (Nat.le_refl _) _
  have hb03 : Bw W0 w3 := hb2.trans hb3
  have Llt : L < 9223372036854775808 := by omega
  have hLc : L ≤ cap0 := by omega
  have hge9 : ∀ b, dIn g lb gm b ∨ rIn gd cb b → W0.heap.size ≤ b := fun b hb => hb.elim (hge2 b) (fun h => Nat.le_trans hb2.size (hge3 b h))
  have hlow0 : ∀ b o, a0 = some ⟨b, o, none⟩ → 0 < L → b < W0.heap.size := fun b o e h0 => by
    have h := hRow.out
    rw [e] at h
    exact h.lt (k := 0) h0
  have hnoD : ∀ b o, a0 = some ⟨b, o, none⟩ → 0 < L → ¬ dIn g lb gm b := fun b o e h0 hd => by
    have h1 := hlow0 b o e h0; have h2 := hge9 b (.inl hd); omega
  have hnoR : ∀ b o, a0 = some ⟨b, o, none⟩ → 0 < L → ¬ rIn gd cb b := fun b o e h0 hd => by
    have h1 := hlow0 b o e h0; have h2 := hge9 b (.inr hd); omega
  have hd3 : DiskAt w3 g lb gm (Dsk.new n) := hd2.keep hb3
  have hRow3 : RowAt w3 a0 L f0 := hRow.out.keep hb03
  have HRW : Hid (RowAt (w3.alloc (.cells #[] 5)) a0 L f0) := hRow3.keep kal
  have HCW : Hid (∀ v' w', w'.ownsRow w3.heap.size 5 1 v' L (cellsU f0 L) → Bw w3 w' → ∃ A2 c2, v' = .slice A2 L c2 ∧ Hid (Calls Try.prog 17 #[.pointer (some ⟨g, 0, none⟩), .int .i64 0, .slice A2 L c2] w' fun e w4 => e = .returned (.int .i64 0) ∧ Hid (DiskAt w4 g lb gm S1) ∧ Hid (Bx (dIn g lb gm) w3 w4))) := fun v' w' ho hb => by
    obtain ⟨A2, c2, e, q1, q2, q3, q4⟩ := row_of_own hRow.out.2 ho
    have kw := hb
    refine ⟨A2, c2, e, show Calls _ _ _ _ _ from ?_⟩
    rw [← hS1.out]
    refine (write_any (hd3.keep kw) 0 (by decide) A2 L c2 f0 Llt q3 (fun b o e h0 hd => by have h1 := (q4 _ e).1; have h2 := hd3.low b hd; have h3 : w3.heap.size ≤ b := h1; omega) q1).mono ?_
    rw [hE.out]
    rintro e w4 ⟨h1, h2, h3⟩
    exact ⟨h1, h2, (Bx.of_bw kw).trans h3⟩
  have HWr : Hid (∀ W, Bx (dIn g lb gm) w3 W → DiskAt W g lb gm S1 → Calls Try.prog 18 #[.pointer (some ⟨gd, 0, none⟩), .int .i64 0, .slice a0 L cap0] W fun e w' => e = .returned (.int .i64 0) ∧ Hid (DiskAt w' g lb gm S1) ∧ Hid (∃ LV WV, RefAt w' gd cb cap LV WV S1) ∧ Bw W0 w') := fun W kx hdW => by
    have hr5 := hr3.keepn kx hd3.nou15 (dr_ne15 hd3 hr3 _ (.inl rfl)) (dr_ne15 hd3 hr3 _ (.inr rfl))
    have kW : Bw W0 W := Below.trans hb03 (kx.below hb03.size (fun b e => hge9 b (.inl e)))
    refine (rwrite_any hr5 0 (by decide) a0 L cap0 f0 Llt (hRow.out.keep kW) hnoR hLc).mono ?_
    rw [hE.out, hS1.out]
    rintro e w' ⟨h1, ⟨WV', h2⟩, h3⟩
    exact ⟨h1, hdW.keepx h3 (fun e => dr_ne15 hdW hr5 _ e (.inl rfl)) (fun e => dr_ne15 hdW hr5 _ e (.inr (.inl rfl))) (fun e => dr_ne15 hdW hr5 _ e (.inr (.inr rfl))), ⟨_, _, h2⟩, Below.trans kW (h3.below kW.size (fun b e => hge9 b (.inr e)))⟩
  have HPl : Hid (∀ W f1 f3, DiskAt W g lb gm S1 → (∃ LV WV, RefAt W gd cb cap LV WV S1) → Bw W0 W → Calls Try.prog 12 #[.pointer (some ⟨g, 0, none⟩), .pointer (some ⟨gd, 0, none⟩), .agg #[.int .i64 x1, .int .i64 y1], .slice (some ⟨W.heap.size + 1 + 1 + 1 + 1, 0, none⟩) 4 4] (rawW W f1 f3) fun e w' => e = .returned (.bool true) ∧ Hid (Bw W0 w')) := fun W f1 f3 hd hr kW => by
    obtain ⟨kl, hl⟩ := raw_lit W f1 f3
    obtain ⟨LVz, WVz, hr⟩ := hr
    have hno : ∀ b, W.heap.size ≤ b → ¬ (dIn g lb gm b ∨ rIn gd cb b) := fun b hb hi => by
      rcases hi with hi | hi
      · have := hd.low b hi; omega
      · have := hr.low b hi; omega
    have hsz : (rawW W f1 f3).heap.size = W.heap.size + 5 := by simp only [rawW, size_alloc]
    refine (played15_any (hd.keep kl) ⟨_, _, hr.keep kl⟩ x1 y1 bx bY _ 4 4 _ (fun W' k' => hl W' (fun b h1 h2 => k'.block b (by omega) (hno b h1))) (fun i hi => ?_) (fun i hi b hb => ?_) (fun i hi b o e h0 => ?_) (fun i hi b o e h0 => ?_)).mono ?_
    · rcases i with _ | _ | _ | _ | i
      · show 1 + 0 + sumN (fun _ => 1) 1 ≤ 32768; decide
      · show 0 + 0 + sumN (fun _ => 0) 0 ≤ 32768; decide
      · show 2 + 0 + sumN (fun r => if r = 0 then 1 else 0) 2 ≤ 32768; decide
      · show 0 + 0 + sumN (fun _ => 0) 0 ≤ 32768; decide
      · omega
    · have hge : W.heap.size ≤ b := by
        rcases i with _ | _ | _ | _ | i
        · rcases hb with ⟨o, e, h0⟩ | ⟨u, hu, o, m, c, e, h0⟩
          · cases e; omega
          · obtain ⟨r, hr, rfl⟩ := List.mem_map.1 hu
            cases e; omega
        · rcases hb with ⟨o, e, h0⟩ | ⟨u, hu, o, m, c, e, h0⟩
          · cases e
          · obtain ⟨r, hr, rfl⟩ := List.mem_map.1 hu
            cases e
        · rcases hb with ⟨o, e, h0⟩ | ⟨u, hu, o, m, c, e, h0⟩
          · cases e; omega
          · obtain ⟨r, hr, rfl⟩ := List.mem_map.1 hu
            rcases r with _ | r
            · cases e; omega
            · cases e
        · rcases hb with ⟨o, e, h0⟩ | ⟨u, hu, o, m, c, e, h0⟩
          · cases e
          · obtain ⟨r, hr, rfl⟩ := List.mem_map.1 hu
            cases e
        · omega
      exact hno b hge
    · rcases i with _ | _ | _ | _ | i
      · cases e
      · cases e
      · cases e
      · cases e
      · omega
    · rcases i with _ | _ | _ | _ | i
      · cases e
      · cases e
      · cases e
      · cases e
      · omega
    · rintro e w' ⟨h1, S, h2, h3, h4, h5⟩
      have kk := kW.trans kl
      exact ⟨h1, Below.trans kk (h5.below kk.size hge9)⟩
  clear hd2 hge2 hr3 hge3 hb2 hb3 hd3 hRow3 hRow hE hS1 hge9 hlow0 hnoD hnoR bx bY hb03 kal
  obtain ⟨i0, hi0, hz0, hz1, hz2⟩ := info_parts info_u8
  have hmx : 0 + L ≤ maxLen := by unfold maxLen; omega
  have kc := fun (w : World) (C : Array Value) (n c : Nat) => Lib.run_convert_bytes_const (P := Try.prog) w 37 5 C n c Try.underlying37 Try.underlying5
  have kc3 := fun (w : World) (o1 o2 : Obj) (C : Array Value) (n c : Nat) => by_const3 w o1 o2 C n c
  go_wp2_with (first
    | (at_builtin; refine wpList_append_rowat _ (by rfl) (.tmp 41) (.tmp 42) _ (by rfl) w3.heap.size 5 i0 _ 1 Try.underlying37 hi0 hz0 hz1 hz2 rfl _ _ _ (by rfl) (own_empty w3 w3.heap.size _ (Nat.le_refl _)) a0 L cap0 f0 (by rfl) HRW.out hnil hmx (by omega) (by simp) ?_; intro v2 w2' hown2 hgrow2; simp only [Nat.zero_add, List.nil_append] at hown2; have bw2 := bw_fresh hgrow2; obtain ⟨A2, c2, e2', HCw⟩ := HCW.out v2 w2' hown2 bw2; subst e2'; clear hown2 hgrow2 HCW bw2)
    | (go_at_call 17; refine HCw.out.mono ?_; rintro e w4 ⟨rfl, hd4, hx4⟩; clear HCw)
    | (go_at_call 18; refine (HWr.out w4 hx4.out hd4.out).mono ?_; rintro e w5 ⟨rfl, hd5, hr5, hb5⟩; clear HWr; have yz := HZ.out w5 hb5; have z0 := yz.1; have z1 := yz.2; clear yz)
    | (go_at_call 12; refine (HPl.out w5 _ _ hd5.out hr5.out hb5).mono ?_; rintro e w6 ⟨rfl, hb6⟩)
    | (go_at_call 9; refine (wakes15_any _).mono ?_; rintro e w9 ⟨rfl, hb9⟩))
  go_ret
  exact ⟨rfl, (HB0.out.trans hb6.out).trans hb9⟩

set_option maxRecDepth 100000 in
theorem lifted (os : Os) (started : os.Started) (H : Type) (enc : TypeId × Value → H) :
    ReturnsInHanded {} Try.checked os 4 .any (Rows.journalRawSpec.pre6 enc Try.prog Try.f4 Rows.journalRawRow.domain false) (Rows.journalRawSpec.post enc Try.prog Try.f4 false true false false) := by
  refine returnsInHanded_of_change_sized (C := Try.checked) own started (by kernel_rfl) Try.func4
    (ChangeSpec.witness6 (enc := enc) (C := Try.checked) false ⟨#[], #[.slice none 0 0, .agg #[.int .i64 0, .int .i64 0]], []⟩ 8 (by kernel_rfl) (by kernel_rfl) (by kernel_rfl) (by kernel_rfl)) ?_
  intro W base args ds gs before hval0 hW hcnd hsz0 _
  have hval : ∀ (j : Nat) t v, Try.f4.params[j]? = some t → args[j]? = some v → Value.okWide Try.prog W .any base t v := hval0
  have hW' := hW
  obtain ⟨p, q, hA0, hV, rfl, hfz, hnd⟩ := hW
  have hA : DataW.TrodAll enc Try.prog W 0 (fun _ => true) true Try.f4.params.toList args.toList ds p := hA0
  have hsz : (DataW.weightsEach Try.prog (Try.f4.params.toList ++ Rows.journalRawSpec.plain.varTypes Try.prog) (ds ++ gs)).all (· ≤ reachBytes) = true := hsz0
  rw [Try.params4] at hA hval hsz
  obtain ⟨v0, vs0, d0, ds0, p0, q0, hargs, rfl, rfl, h0, r0⟩ := trodAll_cons hA
  obtain ⟨v1, vs1, d1, ds1, p1, q1, rfl, rfl, rfl, h1, r1⟩ := trodAll_cons r0
  obtain ⟨rfl, rfl, rfl⟩ := trodAll_nil r1
  obtain rfl : args = #[v0, v1] := by cases args; simp_all
  obtain ⟨rfl, rfl⟩ := trodVars_none hV
  obtain ⟨a0, len0, cap0, rfl⟩ := okWide_slice Try.underlying37 (hval 0 37 v0 rfl rfl)
  have k0 := h0
  have lt0 : ∀ x ∈ p0, x.block < W.heap.size := by obtain ⟨m, hm⟩ := k0; exact DataW.trod_lt m _ _ _ hm
  obtain ⟨f0, w0⟩ := open_bytes h0 (fun x hx => by simpa using List.all_eq_true.1 hsz x (DataW.weights_mem_each (j := 0) (t := 37) rfl rfl x hx))
  have k1 := h1
  have lt1 : ∀ x ∈ p1, x.block < W.heap.size := by obtain ⟨m, hm⟩ := k1; exact DataW.trod_lt m _ _ _ hm
  obtain ⟨x1, y1, rfl, w1⟩ := open_run15 (hval 1 23 v1 rfl rfl) h1
  clear hA0 hval0
  refine (walk a0 len0 cap0 f0 x1 y1 W w0 w1).mono fun e W' ⟨he, bel⟩ => ?_
  subst he
  exact ⟨_, rfl, _, _, _, [], _, [], hW', trodAll_mk1 (shut_bool Try.underlying4 _), (trodAll_cons_mk (Below.trod laidOut (by kernel_rfl) (of_decide_eq_true (by kernel_rfl)) k0 bel lt0) (trodAll_cons_mk (Below.trod laidOut (by kernel_rfl) (of_decide_eq_true (by kernel_rfl)) k1 bel lt1) trodAll_mk0)), rfl, bel.frame _, fun h => by cases h⟩

theorem over : Rows.journalRawRow.holds Try.pinned (OpenSpec.ofChange Rows.journalRawSpec) :=
  OpenClaim.holds_of_wide 4 Try.f4 rfl rfl rfl rfl rfl rfl rfl ⟨rfl, rfl, rfl, rfl, rfl⟩ rfl rfl rfl rfl rfl (by kernel_rfl) Try.func4 (by kernel_rfl)
    (of_decide_eq_true (by kernel_rfl)) (by unfold Func.isWrapper; first | (rw [if_pos (by decide +kernel)]; kernel_rfl) | (rw [if_neg (by decide +kernel)]; exact ⟨rfl, rfl⟩))
    (fun os started H enc _ => lifted os started H enc)

theorem proved : Rows.JournalRawSaid := over
#print axioms proved
end Go.Proofs.Ytppknadflmjefaa.journalRaw
