/- Proved: for every row of bytes, every head, every list of turns, sealed or not, the statement HeadGets answers true (the document's P10.2 and P10.9: Get of any bytes, and of a head's with some turned; what is handed in stays), with no condition but the reach. -/
import Derived.Test.YtkoacehgfmflmaaX4
import Derived.Test.YtkoacehgfmflmaaI7
import Derived.Test.YtkoacehgfmflmaaFh
import Derived.ShutString
import Derived.ChangeOld
namespace Go.Proofs.Ytkoacehgfmflmaa.headGets
open Go.ChangeShapes Go.WideShapes Go.ChangeAt Go.RowKit
set_option linter.unusedVariables false

set_option linter.unusedSimpArgs false
attribute [local go_sem] List.getElem?_cons_zero Option.getD_some
set_option maxRecDepth 100000 in
set_option maxHeartbeats 16000000 in
theorem gets_any (h : Hd.Hdr) (hsm : Hd.Small h) (A2 : Option Addr) (n2 ca2 : Nat) (T : Nat → Int) (C : Nat → UInt8) (sl : Bool) (B : Option Addr) (m cb : Nat) (l0 : Hd.B) (hl0 : l0.length = m) (hmc : m ≤ cb) (hm : m ≤ 140737488351232) (hnil0 : B = none → cb = 0) (w : World) (hr : RowAt w B m (Hd.rowF l0)) (ht : InTurns w A2 n2 ca2 T C) :
    Calls Try.prog 4 #[.slice B m cb, .agg (Hd.hv h), .slice A2 n2 ca2, .bool sl] w fun e w' => e = .returned (.bool true) ∧ Below w.heap.size w w' := by
  have hz7 := zero_head
  have hgr := guard_head
  obtain ⟨N, hN⟩ : ∃ N, Hid (N = Hd.none7) := ⟨_, rfl⟩
  rw [← hN.out] at hz7
  have HNS : Hid (∀ h : Hd.Hdr, N.size = (Hd.hv h).size) := fun h => by rw [hN.out]; rfl
  have hq : ∀ (k : Hd.Hdr) W, (Op.equalIn 10000 23 (.agg (Hd.hv k)) (.agg (Hd.hv k))).run Try.prog W = .ok true W := fun k W => by rw [equalIn_head, Hd.eqB_same]
  obtain ⟨W1, hW1⟩ : ∃ V, V = w.alloc (.cells (Hd.hv h) 23) := ⟨_, rfl⟩
  have hH1 : HeadAt W1 w.heap.size h := by rw [hW1]; exact headat_new _ _
  have hb1 : Bw w W1 := by rw [hW1]; exact bw_alloc7 (Bw.refl _) _
  have HTU : Hid (Calls Try.prog 14 #[.agg (Hd.hv h), .slice A2 n2 ca2, .bool sl, .slice B m cb] W1 fun e w' => TurnedSays W1 e w') := turned_any h hsm A2 n2 ca2 T C sl B m cb l0 hl0 hmc hm hnil0 W1 (hr.keep hb1) (ht.keep hb1)
  have HL0 : Hid (l0.length = m) := hl0
  have HR0 : Hid (∀ V, Bw w V → RowAt V B m (Hd.rowF l0)) := fun V h => hr.keep h
  obtain ⟨k0, er0, hrd0⟩ := Hd.reads_ex l0
  have HRD0 : Hid (Hd.Reads l0 k0 er0) := hrd0
  clear hr ht hl0 hrd0
  go_enter Try.func4, Try.ntmps4
  go_wp2_with (first
    | (rw [← hW1]; clear hW1; refine wpList_load_row rfl 23 _ rfl w.heap.size rfl 23 (Hd.hv h) (0, 0) _ hH1 Try.underlying23 rfl (info_head h) ?_)
    | (go_at_call 14; refine HTU.out.mono ?_; rintro e w2 ⟨A, n, ca, l, rfl, hl, hnc, hn, hr2, hnil, hw2⟩; refine Hid.out ?_))
  show Hid _
  have hb2 := hb1.trans hw2
  have HL : Hid (l.length = n) := hl
  have HR2 : Hid (∀ V, Bw w2 V → RowAt V A n (Hd.rowF l)) := fun V h => hr2.keep h
  obtain ⟨k, er, hrd⟩ := Hd.reads_ex l
  have HRD : Hid (Hd.Reads l k er) := hrd
  clear HTU hl hH1 hr2 hrd
  have tok1 : Hid (w = w) := rfl
  have tok2 : Hid (w = w) := rfl
  have tok3 : Hid (w = w) := rfl
  have tok4 : Hid (w = w) := rfl
  unfold Hid
  go_wp2_with (go_at_call 15; clear tok1; refine (lent10_any B m cb (Hd.rowF l0) hm _ (HR0.out _ hb2) hnil0).mono ?_; rintro e w3 ⟨g3, cap3, rfl, hown3, hg3, hcap3, hcm3, hw3⟩; obtain ⟨hin3, hlo3⟩ := lent_list hown3; clear hown3 hg3)
  go_wp2_with (go_at_call 15; clear tok2; refine (lent10_any A n ca (Hd.rowF l) hn _ (HR2.out _ hw3) hnil).mono ?_; rintro e w4 ⟨g4, cap4, rfl, hown4, hg4, hcap4, hcm4, hw4⟩; obtain ⟨hin4, hlo4⟩ := lent_list hown4; clear hown4 hg4)
  go_wp2_with (first | (go_at_call_of 16 cap3; refine (hGet_reads _ m cap3 l0 k0 er0 HL0.out HRD0.out _ (hlo3.keep hw4)).mono ?_; rintro e w5 ⟨rfl, hw5⟩) | (refine wpList_store_row rfl 23 _ _ rfl w5.heap.size (Hd.hv k0) rfl rfl 23 N (heap_alloc_new _ _) (info_head k0) (HNS.out k0) (Hd.hv_one k0) ?_; rw [setRow_alloc_new]; obtain ⟨U5, hU5⟩ : ∃ V, V = w5.alloc (.cells (Hd.hv k0) 23) := ⟨_, rfl⟩; have HU5 : HeadAt U5 w5.heap.size k0 := (by rw [hU5]; exact headat_new _ _); have bU5 : Bw w5 U5 := (by rw [hU5]; exact bw_alloc7 (Bw.refl _) _); rw [← hU5]; clear hU5))
  go_wp2_with (first | (go_at_call_of 16 cap4; refine (hGet_reads _ n cap4 l k er HL.out HRD.out _ (hlo4.keep (hw5.trans bU5))).mono ?_; rintro e w6 ⟨rfl, hw6⟩) | (refine wpList_store_row rfl 23 _ _ rfl w6.heap.size (Hd.hv k) rfl rfl 23 N (heap_alloc_new _ _) (info_head k) (HNS.out k) (Hd.hv_one k) ?_; rw [setRow_alloc_new]; obtain ⟨U6, hU6⟩ : ∃ V, V = w6.alloc (.cells (Hd.hv k) 23) := ⟨_, rfl⟩; have HU6 : HeadAt U6 w6.heap.size k := (by rw [hU6]; exact headat_new _ _); have bU6 : Bw w6 U6 := (by rw [hU6]; exact bw_alloc7 (Bw.refl _) _); rw [← hU6]; clear hU6))
  have h36 : Bw w3 U6 := hw4.trans (hw5.trans (bU5.trans (hw6.trans bU6)))
  have h46 : Bw w4 U6 := hw5.trans (bU5.trans (hw6.trans bU6))
  have HX6 := HU5.keep (hw6.trans bU6)
  go_wp2_with (first | (go_at_call_of 17 cb; refine (rGet_reads B m cb l0 k0 er0 HL0.out hmc HRD0.out _ (HR0.out _ (hb2.trans (hw3.trans h36)))).mono ?_; rintro e w7 ⟨rfl, hw7⟩) | (refine wpList_store_row rfl 23 _ _ rfl w7.heap.size (Hd.hv k0) rfl rfl 23 N (heap_alloc_new _ _) (info_head k0) (HNS.out k0) (Hd.hv_one k0) ?_; rw [setRow_alloc_new]; obtain ⟨U7, hU7⟩ : ∃ V, V = w7.alloc (.cells (Hd.hv k0) 23) := ⟨_, rfl⟩; have HU7 : HeadAt U7 w7.heap.size k0 := (by rw [hU7]; exact headat_new _ _); have bU7 : Bw w7 U7 := (by rw [hU7]; exact bw_alloc7 (Bw.refl _) _); rw [← hU7]; clear hU7))
  go_wp2_with (first | (go_at_call_of 17 ca; refine (rGet_reads A n ca l k er HL.out hnc HRD.out _ (HR2.out _ (hw3.trans (h36.trans (hw7.trans bU7))))).mono ?_; rintro e w8 ⟨rfl, hw8⟩) | (refine wpList_store_row rfl 23 _ _ rfl w8.heap.size (Hd.hv k) rfl rfl 23 N (heap_alloc_new _ _) (info_head k) (HNS.out k) (Hd.hv_one k) ?_; rw [setRow_alloc_new]; obtain ⟨U8, hU8⟩ : ∃ V, V = w8.alloc (.cells (Hd.hv k) 23) := ⟨_, rfl⟩; have HU8 : HeadAt U8 w8.heap.size k := (by rw [hU8]; exact headat_new _ _); have bU8 : Bw w8 U8 := (by rw [hU8]; exact bw_alloc7 (Bw.refl _) _); rw [← hU8]; clear hU8; have h68 : Bw U6 U8 := hw7.trans (bU7.trans (hw8.trans bU8)); have X8 := HX6.keep h68; have Y8 := HU6.keep h68; have Z8 := HU7.keep (hw8.trans bU8)) | (refine wpList_load_row rfl 23 _ rfl w5.heap.size rfl 23 (Hd.hv k0) (0, 0) _ X8 Try.underlying23 rfl (info_head k0) ?_) | (refine wpList_load_row rfl 23 _ rfl w7.heap.size rfl 23 (Hd.hv k0) (0, 0) _ Z8 Try.underlying23 rfl (info_head k0) ?_) | (refine wpList_load_g10 (by rfl) 23 _ rfl w6.heap.size rfl 23 (Hd.hv k) (0, 0) _ Y8 Try.underlying23 rfl (info_head k) ?_) | (refine wpList_load_g10 (by rfl) 23 _ rfl w8.heap.size rfl 23 (Hd.hv k) (0, 0) _ HU8 Try.underlying23 rfl (info_head k) ?_) | (go_at_call 18; clear tok3; refine (kept10_yes g3 m cap3 B cb (Hd.rowF l0) hm hcap3 _ (hin3.keep (h36.trans h68)) (HR0.out _ (hb2.trans (hw3.trans (h36.trans h68))))).mono ?_; rintro e w9 ⟨rfl, hw9⟩) | (go_at_call 18; clear tok4; refine (kept10_yes g4 n cap4 A ca (Hd.rowF l) hn hcap4 _ (hin4.keep (h46.trans (h68.trans hw9))) (HR2.out _ (hw3.trans (h36.trans (h68.trans hw9))))).mono ?_; rintro e w10 ⟨rfl, hw10⟩))
  go_ret
  exact ⟨rfl, hb2.trans (hw3.trans (h36.trans (h68.trans (hw9.trans hw10))))⟩
theorem walk (a0 : Option Addr) (len0 cap0 : Nat) (f0 : Nat → Int) (y1 : Hd.Hdr) (a2 : Option Addr) (len2 cap2 : Nat) (T2 : Nat → Int) (C2 : Nat → UInt8) (a3 : Bool) (w : World) (w0 : InRow w a0 len0 cap0 f0) (w1 : InHead y1) (w2 : InTurns w a2 len2 cap2 T2 C2) :
    Calls Try.prog 4 #[.slice a0 len0 cap0, .agg (Hd.hv y1), .slice a2 len2 cap2, .bool a3] w fun e w' => e = .returned (.bool true) ∧ Below w.heap.size w w' := by
  obtain ⟨l, hl, hr, -⟩ := row_list w0.row
  have hsm : Hd.Small y1 := ⟨by have := w1.name; omega, by have := w1.link; omega, by have := w1.pre; omega⟩
  exact gets_any y1 hsm a2 len2 cap2 T2 C2 a3 a0 len0 cap0 l hl w0.le (by have := w0.le; have := w0.room; omega) w0.nil w hr w2

set_option maxRecDepth 100000 in
theorem lifted (os : Os) (started : os.Started) (H : Type) (enc : TypeId × Value → H) :
    ReturnsInHanded {} Try.checked os 4 .any (Rows.headGetsSpec.pre6 enc Try.prog Try.f4 Rows.headGetsRow.domain false) (Rows.headGetsSpec.post enc Try.prog Try.f4 false true false false) := by
  refine returnsInHanded_of_change_sized (C := Try.checked) own started (by kernel_rfl) Try.func4
    (ChangeSpec.witness6 (enc := enc) (C := Try.checked) false ⟨#[], #[.slice none 0 0, .agg #[.string .empty, .string .empty, .int .i64 0, .int .i64 0, .int .i64 0, .int .u8 0, .string .empty], .slice none 0 0, .bool false], []⟩ 8 (by kernel_rfl) (by kernel_rfl) (by kernel_rfl) (by kernel_rfl)) ?_
  intro W base args ds gs before hval0 hW hcnd hsz0 _
  have hval : ∀ (j : Nat) t v, Try.f4.params[j]? = some t → args[j]? = some v → Value.okWide Try.prog W .any base t v := hval0
  have hW' := hW
  obtain ⟨p, q, hA0, hV, rfl, hfz, hnd⟩ := hW
  have hA : DataW.TrodAll enc Try.prog W 0 (fun _ => true) true Try.f4.params.toList args.toList ds p := hA0
  have hsz : (DataW.weightsEach Try.prog (Try.f4.params.toList ++ Rows.headGetsSpec.plain.varTypes Try.prog) (ds ++ gs)).all (· ≤ reachBytes) = true := hsz0
  rw [Try.params4] at hA hval hsz
  obtain ⟨v0, vs0, d0, ds0, p0, q0, hargs, rfl, rfl, h0, r0⟩ := trodAll_cons hA
  obtain ⟨v1, vs1, d1, ds1, p1, q1, rfl, rfl, rfl, h1, r1⟩ := trodAll_cons r0
  obtain ⟨v2, vs2, d2, ds2, p2, q2, rfl, rfl, rfl, h2, r2⟩ := trodAll_cons r1
  obtain ⟨v3, vs3, d3, ds3, p3, q3, rfl, rfl, rfl, h3, r3⟩ := trodAll_cons r2
  obtain ⟨rfl, rfl, rfl⟩ := trodAll_nil r3
  obtain rfl : args = #[v0, v1, v2, v3] := by cases args; simp_all
  obtain ⟨rfl, rfl⟩ := trodVars_none hV
  obtain ⟨a0, len0, cap0, rfl⟩ := okWide_slice Try.underlying24 (hval 0 24 v0 rfl rfl)
  have k0 := h0
  have lt0 : ∀ x ∈ p0, x.block < W.heap.size := by obtain ⟨m, hm⟩ := k0; exact DataW.trod_lt m _ _ _ hm
  obtain ⟨f0, w0⟩ := open_bytes h0 (fun x hx => by simpa using List.all_eq_true.1 hsz x (DataW.weights_mem_each (j := 0) (t := 24) rfl rfl x hx))
  have k1 := h1
  have lt1 : ∀ x ∈ p1, x.block < W.heap.size := by obtain ⟨m, hm⟩ := k1; exact DataW.trod_lt m _ _ _ hm
  obtain ⟨y1, rfl, w1⟩ := open_head (hval 1 23 v1 rfl rfl) h1 (fun x hx => by simpa using List.all_eq_true.1 hsz x (DataW.weights_mem_each (j := 1) (t := 23) rfl rfl x hx))
  obtain ⟨a2, len2, cap2, rfl⟩ := okWide_slice Try.underlying33 (hval 2 33 v2 rfl rfl)
  have k2 := h2
  have lt2 : ∀ x ∈ p2, x.block < W.heap.size := by obtain ⟨m, hm⟩ := k2; exact DataW.trod_lt m _ _ _ hm
  obtain ⟨T2, C2, w2⟩ := open_turns h2 (fun x hx => by simpa using List.all_eq_true.1 hsz x (DataW.weights_mem_each (j := 2) (t := 33) rfl rfl x hx))
  obtain ⟨a3, rfl, rfl, rfl⟩ := open_bool Try.underlying4 (hval 3 4 v3 rfl rfl) h3
  clear hA0 hval0
  refine (walk a0 len0 cap0 f0 y1 a2 len2 cap2 T2 C2 a3 W w0 w1 w2).mono fun e W' ⟨he, bel⟩ => ?_
  subst he
  exact ⟨_, rfl, _, _, _, [], _, [], hW', trodAll_mk1 (shut_bool Try.underlying4 _), (trodAll_cons_mk (Below.trod laidOut (by kernel_rfl) (of_decide_eq_true (by kernel_rfl)) k0 bel lt0) (trodAll_cons_mk (Below.trod laidOut (by kernel_rfl) (of_decide_eq_true (by kernel_rfl)) k1 bel lt1) (trodAll_cons_mk (Below.trod laidOut (by kernel_rfl) (of_decide_eq_true (by kernel_rfl)) k2 bel lt2) (trodAll_cons_mk (shut_bool Try.underlying4 a3) trodAll_mk0)))), rfl, bel.frame _, fun h => by cases h⟩

theorem over : Rows.headGetsRow.holds Try.pinned (OpenSpec.ofChange Rows.headGetsSpec) :=
  OpenClaim.holds_of_wide 4 Try.f4 rfl rfl rfl rfl rfl rfl rfl ⟨rfl, rfl, rfl, rfl, rfl⟩ rfl rfl rfl rfl rfl (by kernel_rfl) Try.func4 (by kernel_rfl)
    (of_decide_eq_true (by kernel_rfl)) (by unfold Func.isWrapper; first | (rw [if_pos (by decide +kernel)]; kernel_rfl) | (rw [if_neg (by decide +kernel)]; exact ⟨rfl, rfl⟩))
    (fun os started H enc _ => lifted os started H enc)

theorem proved : Rows.HeadGetsSaid := over
#print axioms proved
end Go.Proofs.Ytkoacehgfmflmaa.headGets
