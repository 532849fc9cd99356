/- Proved: for every head and every row of bytes the statement HeadBack answers true (the document's P10.6, the theorem of the stage: a head's bytes are read as it; what is read of any bytes, put, is just these bytes), with no condition but the reach. -/
import Derived.Test.YtkoacehgfmflmaaX2
import Derived.Test.YtkoacehgfmflmaaFh
import Derived.ShutString
import Derived.ChangeOld
namespace Go.Proofs.Ytkoacehgfmflmaa.headBack
open Go.ChangeShapes Go.WideShapes Go.ChangeAt Go.RowKit
set_option linter.unusedVariables false

set_option linter.unusedSimpArgs false
set_option maxRecDepth 100000 in
set_option maxHeartbeats 8000000 in
theorem back_gk (h : Hd.Hdr) (A : Option Addr) (n ca : Nat) (l : Hd.B) (hl : Hid (l.length = n)) (hn : n ≤ 4611686018427387904) (hg : Hd.Good h) (k : Hd.Hdr) (gk : Hd.Good k) (ek : Hid (Hd.layB k = l)) (hrd : Hd.Reads l k 0) (w : World) (hr : RowAt w A n (Hd.rowF l)) : Calls Try.prog 6 #[.agg (Hd.hv h), .slice A n ca] w fun e w' => e = .returned (.bool true) ∧ Below w.heap.size w w' := by
  have hz7 := zero_head
  have hgr := guard_head
  obtain ⟨N, hN⟩ : ∃ N, Hid (N = Hd.none7) := ⟨_, rfl⟩
  rw [← hN.out] at hz7
  have HNS : Hid (∀ h : Hd.Hdr, N.size = (Hd.hv h).size) := fun h => by rw [hN.out]; rfl
  have hqn := fun W => eq_none W hN
  have hqn7 := eq_none7
  obtain ⟨W1, hW1⟩ : ∃ V, V = w.alloc (.cells (Hd.hv h) 23) := ⟨_, rfl⟩
  have hH1 : HeadAt W1 w.heap.size h := by rw [hW1]; exact headat_new _ _
  have hb1 : Bw w W1 := by rw [hW1]; exact bw_alloc7 (Bw.refl _) _
  have HLL : Hid ((Hd.layB h).length = 512) := Hd.lay_len hg
  have hqh : ∀ W, (Op.equalIn 10000 23 (.agg (Hd.hv h)) (.agg (Hd.hv h))).run Try.prog W = .ok true W := fun W => by rw [equalIn_head, Hd.eqB_same]
  have HLK : Hid ((Hd.layB k).length = 512) := Hd.lay_len gk
  go_enter Try.func6, Try.ntmps6
  go_wp2_with (first
    | (go_at_call 25; rw [← hW1]; clear hW1; refine (awake10_any _).mono ?_; rintro e w2 ⟨rfl, hw2⟩; have hH2 := hH1.keep hw2; have hb2 := hb1.trans hw2)
    | (refine wpList_load_row rfl 23 _ rfl w.heap.size rfl 23 (Hd.hv h) (0, 0) _ hH2 Try.underlying23 rfl (info_head h) ?_)
    | (go_at_call_of 9 h; refine (hPut_good h hg _).mono ?_; rintro e w3 ⟨b3, rfl, hn3, hw3⟩; have hA3 := hn3.arr; have hH3 := hH2.keep hw3; have hb3 := hb2.trans hw3)
    | (go_at_call_of 16 b3; refine (hGet_lay h hg b3 512 _ hA3).mono ?_; rintro e w4 ⟨rfl, hw4⟩; have hH4 := hH3.keep hw4; have hb4 := hb3.trans hw4)
    | (refine wpList_store_row rfl 23 _ _ rfl w4.heap.size (Hd.hv h) rfl rfl 23 N (heap_alloc_new _ _) (info_head h) (HNS.out h) (Hd.hv_one h) ?_; rw [setRow_alloc_new]; obtain ⟨U5, hU5⟩ : ∃ V, V = w4.alloc (.cells (Hd.hv h) 23) := ⟨_, rfl⟩; have HU5 : HeadAt U5 w4.heap.size h := (by rw [hU5]; exact headat_new _ _); have bU5 : Bw w4 U5 := (by rw [hU5]; exact bw_alloc7 (Bw.refl _) _); rw [← hU5]; clear hU5; have hH5 := hH4.keep bU5; have hb5 := hb4.trans bU5)
    | (refine wpList_load_g10 (by rfl) 23 _ rfl w4.heap.size rfl 23 (Hd.hv h) (0, 0) _ HU5 Try.underlying23 rfl (info_head h) ?_)
    | (refine wpList_load_g10 (by rfl) 23 _ rfl w.heap.size rfl 23 (Hd.hv h) (0, 0) _ hH5 Try.underlying23 rfl (info_head h) ?_)
    | (go_at_call_of 16 ca; refine (hGet_reads A n ca l k 0 hl.out hrd _ (hr.keep hb5)).mono ?_; rintro e w6 ⟨rfl, hw6⟩; have hb6 := hb5.trans hw6)
    | (refine wpList_store_row rfl 23 _ _ rfl w6.heap.size (Hd.hv k) rfl rfl 23 N (heap_alloc_new _ _) (info_head k) (HNS.out k) (Hd.hv_one k) ?_; rw [setRow_alloc_new]; obtain ⟨U7, hU7⟩ : ∃ V, V = w6.alloc (.cells (Hd.hv k) 23) := ⟨_, rfl⟩; have HU7 : HeadAt U7 w6.heap.size k := (by rw [hU7]; exact headat_new _ _); have bU7 : Bw w6 U7 := (by rw [hU7]; exact bw_alloc7 (Bw.refl _) _); rw [← hU7]; clear hU7; have hb7 := hb6.trans bU7)
    | (refine wpList_load_row rfl 23 _ rfl w6.heap.size rfl 23 (Hd.hv k) (0, 0) _ HU7 Try.underlying23 rfl (info_head k) ?_)
    | (go_at_call_of 9 k; refine (hPut_good k gk _).mono ?_; rintro e w8 ⟨b8, rfl, hn8, hw8⟩; have hA8 := hn8.arr; have hb8 := hb7.trans hw8)
    | (go_at_call 11; refine (same10_any (some ⟨b8, 0, none⟩) A 512 n 512 ca (Hd.rowF (Hd.layB k)) (Hd.rowF l) (by omega) hn _ (arr_row512 hA8 HLK.out) (hr.keep hb8)).mono ?_; rintro e w9 ⟨⟨x, rfl, hx⟩, q, hq⟩; obtain rfl : x = true := hx.2 ⟨by rw [← hl.out, ← ek.out, HLK.out], fun i _ => by rw [ek.out]⟩; have hb9 : Bw w w9 := (by rw [hq]; exact hb8.trans (Bw.drewN _ q)); clear hq hx))
  go_ret
  exact ⟨rfl, hb9⟩
set_option maxRecDepth 100000 in
set_option maxHeartbeats 8000000 in
theorem back_gn (h : Hd.Hdr) (A : Option Addr) (n ca : Nat) (l : Hd.B) (hl : Hid (l.length = n)) (hn : n ≤ 4611686018427387904) (hg : Hd.Good h) (er : Nat) (he : er ≠ 0) (hrd : Hd.Reads l Hd.none er) (w : World) (hr : RowAt w A n (Hd.rowF l)) : Calls Try.prog 6 #[.agg (Hd.hv h), .slice A n ca] w fun e w' => e = .returned (.bool true) ∧ Below w.heap.size w w' := by
  have hz7 := zero_head
  have hgr := guard_head
  obtain ⟨N, hN⟩ : ∃ N, Hid (N = Hd.none7) := ⟨_, rfl⟩
  rw [← hN.out] at hz7
  have HNS : Hid (∀ h : Hd.Hdr, N.size = (Hd.hv h).size) := fun h => by rw [hN.out]; rfl
  have hqn := fun W => eq_none W hN
  have hqn7 := eq_none7
  obtain ⟨W1, hW1⟩ : ∃ V, V = w.alloc (.cells (Hd.hv h) 23) := ⟨_, rfl⟩
  have hH1 : HeadAt W1 w.heap.size h := by rw [hW1]; exact headat_new _ _
  have hb1 : Bw w W1 := by rw [hW1]; exact bw_alloc7 (Bw.refl _) _
  have HLL : Hid ((Hd.layB h).length = 512) := Hd.lay_len hg
  have hqh : ∀ W, (Op.equalIn 10000 23 (.agg (Hd.hv h)) (.agg (Hd.hv h))).run Try.prog W = .ok true W := fun W => by rw [equalIn_head, Hd.eqB_same]
  have ee : ((er : Int) != 0) = true := by rw [bne_iff_ne]; omega
  clear he
  go_enter Try.func6, Try.ntmps6
  go_wp2_with (first
    | (go_at_call 25; rw [← hW1]; clear hW1; refine (awake10_any _).mono ?_; rintro e w2 ⟨rfl, hw2⟩; have hH2 := hH1.keep hw2; have hb2 := hb1.trans hw2)
    | (refine wpList_load_row rfl 23 _ rfl w.heap.size rfl 23 (Hd.hv h) (0, 0) _ hH2 Try.underlying23 rfl (info_head h) ?_)
    | (go_at_call_of 9 h; refine (hPut_good h hg _).mono ?_; rintro e w3 ⟨b3, rfl, hn3, hw3⟩; have hA3 := hn3.arr; have hH3 := hH2.keep hw3; have hb3 := hb2.trans hw3)
    | (go_at_call_of 16 b3; refine (hGet_lay h hg b3 512 _ hA3).mono ?_; rintro e w4 ⟨rfl, hw4⟩; have hH4 := hH3.keep hw4; have hb4 := hb3.trans hw4)
    | (refine wpList_store_row rfl 23 _ _ rfl w4.heap.size (Hd.hv h) rfl rfl 23 N (heap_alloc_new _ _) (info_head h) (HNS.out h) (Hd.hv_one h) ?_; rw [setRow_alloc_new]; obtain ⟨U5, hU5⟩ : ∃ V, V = w4.alloc (.cells (Hd.hv h) 23) := ⟨_, rfl⟩; have HU5 : HeadAt U5 w4.heap.size h := (by rw [hU5]; exact headat_new _ _); have bU5 : Bw w4 U5 := (by rw [hU5]; exact bw_alloc7 (Bw.refl _) _); rw [← hU5]; clear hU5; have hH5 := hH4.keep bU5; have hb5 := hb4.trans bU5)
    | (refine wpList_load_g10 (by rfl) 23 _ rfl w4.heap.size rfl 23 (Hd.hv h) (0, 0) _ HU5 Try.underlying23 rfl (info_head h) ?_)
    | (refine wpList_load_g10 (by rfl) 23 _ rfl w.heap.size rfl 23 (Hd.hv h) (0, 0) _ hH5 Try.underlying23 rfl (info_head h) ?_)
    | (go_at_call_of 16 ca; refine (hGet_reads A n ca l Hd.none er hl.out hrd _ (hr.keep hb5)).mono ?_; rintro e w6 ⟨rfl, hw6⟩; have hb6 := hb5.trans hw6)
    | (refine wpList_store_row rfl 23 _ _ rfl w6.heap.size (Hd.hv Hd.none) rfl rfl 23 N (heap_alloc_new _ _) (info_head Hd.none) (HNS.out Hd.none) (Hd.hv_one Hd.none) ?_; rw [setRow_alloc_new]; obtain ⟨U7, hU7⟩ : ∃ V, V = w6.alloc (.cells (Hd.hv Hd.none) 23) := ⟨_, rfl⟩; have HU7 : HeadAt U7 w6.heap.size Hd.none := (by rw [hU7]; exact headat_new _ _); have bU7 : Bw w6 U7 := (by rw [hU7]; exact bw_alloc7 (Bw.refl _) _); rw [← hU7]; clear hU7; have hb7 := hb6.trans bU7)
    | (refine wpList_load_row rfl 23 _ rfl w6.heap.size rfl 23 (Hd.hv Hd.none) (0, 0) _ HU7 Try.underlying23 rfl (info_head Hd.none) ?_))
  go_ret
  exact ⟨rfl, hb7⟩
set_option maxRecDepth 100000 in
set_option maxHeartbeats 8000000 in
theorem back_bk (h : Hd.Hdr) (A : Option Addr) (n ca : Nat) (l : Hd.B) (hl : Hid (l.length = n)) (hn : n ≤ 4611686018427387904) (M : Nat) (hM : Hid (M = Hd.may h)) (hm : M ≠ 0) (k : Hd.Hdr) (gk : Hd.Good k) (ek : Hid (Hd.layB k = l)) (hrd : Hd.Reads l k 0) (w : World) (hr : RowAt w A n (Hd.rowF l)) : Calls Try.prog 6 #[.agg (Hd.hv h), .slice A n ca] w fun e w' => e = .returned (.bool true) ∧ Below w.heap.size w w' := by
  have hz7 := zero_head
  have hgr := guard_head
  obtain ⟨N, hN⟩ : ∃ N, Hid (N = Hd.none7) := ⟨_, rfl⟩
  rw [← hN.out] at hz7
  have HNS : Hid (∀ h : Hd.Hdr, N.size = (Hd.hv h).size) := fun h => by rw [hN.out]; rfl
  have hqn := fun W => eq_none W hN
  have hqn7 := eq_none7
  obtain ⟨W1, hW1⟩ : ∃ V, V = w.alloc (.cells (Hd.hv h) 23) := ⟨_, rfl⟩
  have hH1 : HeadAt W1 w.heap.size h := by rw [hW1]; exact headat_new _ _
  have hb1 : Bw w W1 := by rw [hW1]; exact bw_alloc7 (Bw.refl _) _
  have HM : Hid (Hd.may h ≠ 0) := by rw [← hM.out]; exact hm
  have em : ((M : Int) == 0) = false := by rw [beq_eq_false_iff_ne]; omega
  clear hm
  have HLK : Hid ((Hd.layB k).length = 512) := Hd.lay_len gk
  go_enter Try.func6, Try.ntmps6
  go_wp2_with (first
    | (go_at_call 25; rw [← hW1]; clear hW1; refine (awake10_any _).mono ?_; rintro e w2 ⟨rfl, hw2⟩; have hH2 := hH1.keep hw2; have hb2 := hb1.trans hw2)
    | (refine wpList_load_row rfl 23 _ rfl w.heap.size rfl 23 (Hd.hv h) (0, 0) _ hH2 Try.underlying23 rfl (info_head h) ?_)
    | (go_at_call_of 9 h; refine (hPut_any h _).mono ?_; rintro e w3 ⟨h3, -, hw3⟩; obtain rfl := h3 HM.out; rw [← hM.out]; have hb5 := hb2.trans hw3)
    | (go_at_call_of 16 ca; refine (hGet_reads A n ca l k 0 hl.out hrd _ (hr.keep hb5)).mono ?_; rintro e w6 ⟨rfl, hw6⟩; have hb6 := hb5.trans hw6)
    | (refine wpList_store_row rfl 23 _ _ rfl w6.heap.size (Hd.hv k) rfl rfl 23 N (heap_alloc_new _ _) (info_head k) (HNS.out k) (Hd.hv_one k) ?_; rw [setRow_alloc_new]; obtain ⟨U7, hU7⟩ : ∃ V, V = w6.alloc (.cells (Hd.hv k) 23) := ⟨_, rfl⟩; have HU7 : HeadAt U7 w6.heap.size k := (by rw [hU7]; exact headat_new _ _); have bU7 : Bw w6 U7 := (by rw [hU7]; exact bw_alloc7 (Bw.refl _) _); rw [← hU7]; clear hU7; have hb7 := hb6.trans bU7)
    | (refine wpList_load_row rfl 23 _ rfl w6.heap.size rfl 23 (Hd.hv k) (0, 0) _ HU7 Try.underlying23 rfl (info_head k) ?_)
    | (go_at_call_of 9 k; refine (hPut_good k gk _).mono ?_; rintro e w8 ⟨b8, rfl, hn8, hw8⟩; have hA8 := hn8.arr; have hb8 := hb7.trans hw8)
    | (go_at_call 11; refine (same10_any (some ⟨b8, 0, none⟩) A 512 n 512 ca (Hd.rowF (Hd.layB k)) (Hd.rowF l) (by omega) hn _ (arr_row512 hA8 HLK.out) (hr.keep hb8)).mono ?_; rintro e w9 ⟨⟨x, rfl, hx⟩, q, hq⟩; obtain rfl : x = true := hx.2 ⟨by rw [← hl.out, ← ek.out, HLK.out], fun i _ => by rw [ek.out]⟩; have hb9 : Bw w w9 := (by rw [hq]; exact hb8.trans (Bw.drewN _ q)); clear hq hx))
  go_ret
  exact ⟨rfl, hb9⟩
set_option maxRecDepth 100000 in
set_option maxHeartbeats 8000000 in
theorem back_bn (h : Hd.Hdr) (A : Option Addr) (n ca : Nat) (l : Hd.B) (hl : Hid (l.length = n)) (hn : n ≤ 4611686018427387904) (M : Nat) (hM : Hid (M = Hd.may h)) (hm : M ≠ 0) (er : Nat) (he : er ≠ 0) (hrd : Hd.Reads l Hd.none er) (w : World) (hr : RowAt w A n (Hd.rowF l)) : Calls Try.prog 6 #[.agg (Hd.hv h), .slice A n ca] w fun e w' => e = .returned (.bool true) ∧ Below w.heap.size w w' := by
  have hz7 := zero_head
  have hgr := guard_head
  obtain ⟨N, hN⟩ : ∃ N, Hid (N = Hd.none7) := ⟨_, rfl⟩
  rw [← hN.out] at hz7
  have HNS : Hid (∀ h : Hd.Hdr, N.size = (Hd.hv h).size) := fun h => by rw [hN.out]; rfl
  have hqn := fun W => eq_none W hN
  have hqn7 := eq_none7
  obtain ⟨W1, hW1⟩ : ∃ V, V = w.alloc (.cells (Hd.hv h) 23) := ⟨_, rfl⟩
  have hH1 : HeadAt W1 w.heap.size h := by rw [hW1]; exact headat_new _ _
  have hb1 : Bw w W1 := by rw [hW1]; exact bw_alloc7 (Bw.refl _) _
  have HM : Hid (Hd.may h ≠ 0) := by rw [← hM.out]; exact hm
  have em : ((M : Int) == 0) = false := by rw [beq_eq_false_iff_ne]; omega
  clear hm
  have ee : ((er : Int) != 0) = true := by rw [bne_iff_ne]; omega
  clear he
  go_enter Try.func6, Try.ntmps6
  go_wp2_with (first
    | (go_at_call 25; rw [← hW1]; clear hW1; refine (awake10_any _).mono ?_; rintro e w2 ⟨rfl, hw2⟩; have hH2 := hH1.keep hw2; have hb2 := hb1.trans hw2)
    | (refine wpList_load_row rfl 23 _ rfl w.heap.size rfl 23 (Hd.hv h) (0, 0) _ hH2 Try.underlying23 rfl (info_head h) ?_)
    | (go_at_call_of 9 h; refine (hPut_any h _).mono ?_; rintro e w3 ⟨h3, -, hw3⟩; obtain rfl := h3 HM.out; rw [← hM.out]; have hb5 := hb2.trans hw3)
    | (go_at_call_of 16 ca; refine (hGet_reads A n ca l Hd.none er hl.out hrd _ (hr.keep hb5)).mono ?_; rintro e w6 ⟨rfl, hw6⟩; have hb6 := hb5.trans hw6)
    | (refine wpList_store_row rfl 23 _ _ rfl w6.heap.size (Hd.hv Hd.none) rfl rfl 23 N (heap_alloc_new _ _) (info_head Hd.none) (HNS.out Hd.none) (Hd.hv_one Hd.none) ?_; rw [setRow_alloc_new]; obtain ⟨U7, hU7⟩ : ∃ V, V = w6.alloc (.cells (Hd.hv Hd.none) 23) := ⟨_, rfl⟩; have HU7 : HeadAt U7 w6.heap.size Hd.none := (by rw [hU7]; exact headat_new _ _); have bU7 : Bw w6 U7 := (by rw [hU7]; exact bw_alloc7 (Bw.refl _) _); rw [← hU7]; clear hU7; have hb7 := hb6.trans bU7)
    | (refine wpList_load_row rfl 23 _ rfl w6.heap.size rfl 23 (Hd.hv Hd.none) (0, 0) _ HU7 Try.underlying23 rfl (info_head Hd.none) ?_))
  go_ret
  exact ⟨rfl, hb7⟩
theorem walk (y0 : Hd.Hdr) (a1 : Option Addr) (len1 cap1 : Nat) (f1 : Nat → Int) (w : World) (w0 : InHead y0) (w1 : InRow w a1 len1 cap1 f1) :
    Calls Try.prog 6 #[.agg (Hd.hv y0), .slice a1 len1 cap1] w fun e w' => e = .returned (.bool true) ∧ Below w.heap.size w w' := by
  obtain ⟨l, hl, hr, -⟩ := row_list w1.row
  have hn : len1 ≤ 4611686018427387904 := by have := w1.le; have := w1.room; omega
  obtain ⟨k, er, hrd⟩ := Hd.reads_ex l
  by_cases hm : Hd.may y0 = 0
  · have hg := Hd.may_good hm
    by_cases he : er = 0
    · subst he
      obtain ⟨gk, ek⟩ := Hd.reads_back hrd
      exact back_gk y0 a1 len1 cap1 l hl hn hg k gk ek hrd w hr
    · obtain rfl := Hd.reads_bad hrd he
      exact back_gn y0 a1 len1 cap1 l hl hn hg er he hrd w hr
  · by_cases he : er = 0
    · subst he
      obtain ⟨gk, ek⟩ := Hd.reads_back hrd
      exact back_bk y0 a1 len1 cap1 l hl hn _ rfl hm k gk ek hrd w hr
    · obtain rfl := Hd.reads_bad hrd he
      exact back_bn y0 a1 len1 cap1 l hl hn _ rfl hm er he hrd w hr

set_option maxRecDepth 100000 in
theorem lifted (os : Os) (started : os.Started) (H : Type) (enc : TypeId × Value → H) :
    ReturnsInHanded {} Try.checked os 6 .any (Rows.headBackSpec.pre6 enc Try.prog Try.f6 Rows.headBackRow.domain false) (Rows.headBackSpec.post enc Try.prog Try.f6 false true false false) := by
  refine returnsInHanded_of_change_sized (C := Try.checked) own started (by kernel_rfl) Try.func6
    (ChangeSpec.witness6 (enc := enc) (C := Try.checked) false ⟨#[], #[.agg #[.string .empty, .string .empty, .int .i64 0, .int .i64 0, .int .i64 0, .int .u8 0, .string .empty], .slice none 0 0], []⟩ 8 (by kernel_rfl) (by kernel_rfl) (by kernel_rfl) (by kernel_rfl)) ?_
  intro W base args ds gs before hval0 hW hcnd hsz0 _
  have hval : ∀ (j : Nat) t v, Try.f6.params[j]? = some t → args[j]? = some v → Value.okWide Try.prog W .any base t v := hval0
  have hW' := hW
  obtain ⟨p, q, hA0, hV, rfl, hfz, hnd⟩ := hW
  have hA : DataW.TrodAll enc Try.prog W 0 (fun _ => true) true Try.f6.params.toList args.toList ds p := hA0
  have hsz : (DataW.weightsEach Try.prog (Try.f6.params.toList ++ Rows.headBackSpec.plain.varTypes Try.prog) (ds ++ gs)).all (· ≤ reachBytes) = true := hsz0
  rw [Try.params6] at hA hval hsz
  obtain ⟨v0, vs0, d0, ds0, p0, q0, hargs, rfl, rfl, h0, r0⟩ := trodAll_cons hA
  obtain ⟨v1, vs1, d1, ds1, p1, q1, rfl, rfl, rfl, h1, r1⟩ := trodAll_cons r0
  obtain ⟨rfl, rfl, rfl⟩ := trodAll_nil r1
  obtain rfl : args = #[v0, v1] := by cases args; simp_all
  obtain ⟨rfl, rfl⟩ := trodVars_none hV
  have k0 := h0
  have lt0 : ∀ x ∈ p0, x.block < W.heap.size := by obtain ⟨m, hm⟩ := k0; exact DataW.trod_lt m _ _ _ hm
  obtain ⟨y0, rfl, w0⟩ := open_head (hval 0 23 v0 rfl rfl) h0 (fun x hx => by simpa using List.all_eq_true.1 hsz x (DataW.weights_mem_each (j := 0) (t := 23) rfl rfl x hx))
  obtain ⟨a1, len1, cap1, rfl⟩ := okWide_slice Try.underlying24 (hval 1 24 v1 rfl rfl)
  have k1 := h1
  have lt1 : ∀ x ∈ p1, x.block < W.heap.size := by obtain ⟨m, hm⟩ := k1; exact DataW.trod_lt m _ _ _ hm
  obtain ⟨f1, w1⟩ := open_bytes h1 (fun x hx => by simpa using List.all_eq_true.1 hsz x (DataW.weights_mem_each (j := 1) (t := 24) rfl rfl x hx))
  clear hA0 hval0
  refine (walk y0 a1 len1 cap1 f1 W w0 w1).mono fun e W' ⟨he, bel⟩ => ?_
  subst he
  exact ⟨_, rfl, _, _, _, [], _, [], hW', trodAll_mk1 (shut_bool Try.underlying4 _), (trodAll_cons_mk (Below.trod laidOut (by kernel_rfl) (of_decide_eq_true (by kernel_rfl)) k0 bel lt0) (trodAll_cons_mk (Below.trod laidOut (by kernel_rfl) (of_decide_eq_true (by kernel_rfl)) k1 bel lt1) trodAll_mk0)), rfl, bel.frame _, fun h => by cases h⟩

theorem over : Rows.headBackRow.holds Try.pinned (OpenSpec.ofChange Rows.headBackSpec) :=
  OpenClaim.holds_of_wide 6 Try.f6 rfl rfl rfl rfl rfl rfl rfl ⟨rfl, rfl, rfl, rfl, rfl⟩ rfl rfl rfl rfl rfl (by kernel_rfl) Try.func6 (by kernel_rfl)
    (of_decide_eq_true (by kernel_rfl)) (by unfold Func.isWrapper; first | (rw [if_pos (by decide +kernel)]; kernel_rfl) | (rw [if_neg (by decide +kernel)]; exact ⟨rfl, rfl⟩))
    (fun os started H enc _ => lifted os started H enc)

theorem proved : Rows.HeadBackSaid := over
#print axioms proved
end Go.Proofs.Ytkoacehgfmflmaa.headBack
