/- Proved: for every head, every place and every byte the statement HeadByte answers true (the document's P10.7: a byte of a head's that is another one is seen), with no condition but the reach. -/
import Derived.Test.YtkoacehgfmflmaaX2
import Derived.Test.YtkoacehgfmflmaaFh
import Derived.ShutString
import Derived.ChangeOld
namespace Go.Proofs.Ytkoacehgfmflmaa.headByte
open Go.ChangeShapes Go.WideShapes Go.ChangeAt Go.RowKit
set_option linter.unusedVariables false

set_option linter.unusedSimpArgs false
set_option maxRecDepth 100000 in
set_option maxHeartbeats 8000000 in
theorem byte_bad (h : Hd.Hdr) (at_ : Int) (ha1 : -9223372036854775808 ≤ at_) (ha2 : at_ ≤ 9223372036854775807) (c : UInt8) (M : Nat) (hM : Hid (M = Hd.may h)) (hm : M ≠ 0) (w : World) : Calls Try.prog 7 #[.agg (Hd.hv h), .int .i64 at_, .int .u8 ((c.toNat : Nat) : Int)] w fun e w' => e = .returned (.bool true) ∧ Below w.heap.size w w' := by
  have hz7 := zero_head
  have hgr := guard_head
  obtain ⟨N, hN⟩ : ∃ N, Hid (N = Hd.none7) := ⟨_, rfl⟩
  rw [← hN.out] at hz7
  have HNS : Hid (∀ h : Hd.Hdr, N.size = (Hd.hv h).size) := fun h => by rw [hN.out]; rfl
  have hqn := fun W => eq_none W hN
  have hqn7 := eq_none7
  obtain ⟨W1, hW1⟩ : ∃ V, V = w.alloc (.cells (Hd.hv h) 23) := ⟨_, rfl⟩
  have hH1 : HeadAt W1 w.heap.size h := by rw [hW1]; exact headat_new _ _
  have hb1 : Bw w W1 := by rw [hW1]; exact bw_alloc7 (Bw.refl _) _
  have HM : Hid (Hd.may h ≠ 0) := by rw [← hM.out]; exact hm
  have em : ((M : Int) != 0) = true := by rw [bne_iff_ne]; omega
  clear hm
  go_enter Try.func7, Try.ntmps7
  go_wp2_with (first
    | (go_at_call 25; rw [← hW1]; clear hW1; refine (awake10_any _).mono ?_; rintro e w2 ⟨rfl, hw2⟩; have hH2 := hH1.keep hw2; have hb2 := hb1.trans hw2)
    | (refine wpList_load_row rfl 23 _ rfl w.heap.size rfl 23 (Hd.hv h) (0, 0) _ hH2 Try.underlying23 rfl (info_head h) ?_)
    | (go_at_call 9; refine (hPut_any h _).mono ?_; rintro e w3 ⟨h3, -, hw3⟩; obtain rfl := h3 HM.out; rw [← hM.out]; have hb3 := hb2.trans hw3))
  go_ret
  exact ⟨rfl, hb3⟩
set_option maxRecDepth 100000 in
set_option maxHeartbeats 8000000 in
theorem byte_good (h : Hd.Hdr) (at_ : Int) (ha1 : -9223372036854775808 ≤ at_) (ha2 : at_ ≤ 9223372036854775807) (c : UInt8) (hg : Hd.Good h) (w : World) : Calls Try.prog 7 #[.agg (Hd.hv h), .int .i64 at_, .int .u8 ((c.toNat : Nat) : Int)] w fun e w' => e = .returned (.bool true) ∧ Below w.heap.size w w' := by
  have hz7 := zero_head
  have hgr := guard_head
  obtain ⟨N, hN⟩ : ∃ N, Hid (N = Hd.none7) := ⟨_, rfl⟩
  rw [← hN.out] at hz7
  have HNS : Hid (∀ h : Hd.Hdr, N.size = (Hd.hv h).size) := fun h => by rw [hN.out]; rfl
  have hqn := fun W => eq_none W hN
  have hqn7 := eq_none7
  obtain ⟨W1, hW1⟩ : ∃ V, V = w.alloc (.cells (Hd.hv h) 23) := ⟨_, rfl⟩
  have hH1 : HeadAt W1 w.heap.size h := by rw [hW1]; exact headat_new _ _
  have hb1 : Bw w W1 := by rw [hW1]; exact bw_alloc7 (Bw.refl _) _
  have HLL : Hid ((Hd.layB h).length = 512) := Hd.lay_len hg
  go_enter Try.func7, Try.ntmps7
  go_wp2_with (first
    | (go_at_call 25; rw [← hW1]; clear hW1; refine (awake10_any _).mono ?_; rintro e w2 ⟨rfl, hw2⟩; have hH2 := hH1.keep hw2; have hb2 := hb1.trans hw2)
    | (refine wpList_load_row rfl 23 _ rfl w.heap.size rfl 23 (Hd.hv h) (0, 0) _ hH2 Try.underlying23 rfl (info_head h) ?_)
    | (go_at_call 9; refine (hPut_good h hg _).mono ?_; rintro e w3 ⟨b3, rfl, hn3, hw3⟩; have hA3 := hn3.arr; have hb3 := hb2.trans hw3; have hN3 := hn3.new)
    | (go_at_call 26; refine (place_any at_ ha1 ha2 _).mono ?_; rintro e w' ⟨p, hp, rfl, hw'⟩; subst w'; obtain ⟨c3, f3⟩ := hA3.cell (c := p) (by rw [HLL.out]; exact hp); have p0 : (0 : Int) ≤ (p : Int) := Int.natCast_nonneg _; have p1 : (p : Int) < 512 := (by omega); obtain ⟨x, hx⟩ : ∃ x : UInt8, Hid ((Hd.layB h)[p]? = some x) := ⟨(Hd.layB h)[p]'(by rw [HLL.out]; exact hp), (by show _ = _; exact List.getElem?_eq_getElem _)⟩; rw [Hd.rowF_at hx.out] at c3; refine Hid.out ?_))
  show Hid _
  by_cases hxc : x = c
  · have e1 : (((x.toNat : Nat) : Int) == ((c.toNat : Nat) : Int)) = true := by rw [beq_iff_eq, hxc]
    have e2 : ((c.toNat : Nat) == (c.toNat : Nat)) = true := by rw [beq_iff_eq]
    subst hxc
    unfold Hid
    go_wp2
    go_ret
    exact ⟨rfl, hb3⟩
  · have e1 : (((x.toNat : Nat) : Int) == ((c.toNat : Nat) : Int)) = false := by rw [beq_eq_false_iff_ne]; intro e; exact hxc (UInt8.toNat_inj.1 (by omega))
    have HXC : Hid (x ≠ c) := hxc
    clear hxc
    obtain ⟨W4, hW4⟩ : ∃ V, V = w3.setCell ⟨b3, p, none⟩ (.int .u8 ((c.toNat : Nat) : Int)) := ⟨_, rfl⟩
    have hA4 : ArrAt W4 b3 ((Hd.layB h).set p c) := by rw [hW4, Hd.set_ovl (by rw [HLL.out]; exact hp)]; exact arr_store hA3 c (by rw [HLL.out]; exact hp)
    have hb4 : Bw w W4 := by rw [hW4]; exact hb3.put (by have := hb2.size; omega) _ _
    have HL4 : Hid (((Hd.layB h).set p c).length = 512) := by show _ = _; rw [List.length_set]; exact HLL.out
    obtain ⟨k, er, hrd⟩ := Hd.reads_ex ((Hd.layB h).set p c)
    obtain ⟨rfl, her⟩ := Hd.reads_set hg hx.out HXC.out hrd
    unfold Hid
    rcases her with rfl | rfl
    all_goals
      go_wp2_with (first
        | (go_at_call 16; rw [← hW4]; clear hW4; refine (hGet_reads _ 512 512 _ Hd.none _ HL4.out hrd _ (arr_row512 hA4 HL4.out)).mono ?_; rintro e w6 ⟨rfl, hw6⟩; have hb6 := hb4.trans hw6)
        | (refine wpList_store_row rfl 23 _ _ rfl w6.heap.size (Hd.hv Hd.none) rfl rfl 23 N (heap_alloc_new _ _) (info_head Hd.none) (HNS.out Hd.none) (Hd.hv_one Hd.none) ?_; rw [setRow_alloc_new]; obtain ⟨U7, hU7⟩ : ∃ V, V = w6.alloc (.cells (Hd.hv Hd.none) 23) := ⟨_, rfl⟩; have HU7 : HeadAt U7 w6.heap.size Hd.none := (by rw [hU7]; exact headat_new _ _); have bU7 : Bw w6 U7 := (by rw [hU7]; exact bw_alloc7 (Bw.refl _) _); rw [← hU7]; clear hU7; have hb7 := hb6.trans bU7)
        | (refine wpList_load_row rfl 23 _ rfl w6.heap.size rfl 23 (Hd.hv Hd.none) (0, 0) _ HU7 Try.underlying23 rfl (info_head Hd.none) ?_))
      go_ret
      exact ⟨rfl, hb7⟩
theorem walk (y0 : Hd.Hdr) (a1 : Int) (a2 : Int) (w : World) (w0 : InHead y0) (w1 : (Lit.int .i64 a1).wf = true) (w2 : (Lit.int .u8 a2).wf = true) :
    Calls Try.prog 7 #[.agg (Hd.hv y0), .int .i64 a1, .int .u8 a2] w fun e w' => e = .returned (.bool true) ∧ Below w.heap.size w w' := by
  have b1 := bounds_i64 w1
  have b2 := bounds_u8 w2
  obtain ⟨c, rfl⟩ := Int.eq_ofNat_of_zero_le b2.1
  have hc : (UInt8.ofNat c).toNat = c := by rw [UInt8.toNat_ofNat']; have := b2.2; omega
  rw [show ((c : Nat) : Int) = (((UInt8.ofNat c).toNat : Nat) : Int) by rw [hc]]
  by_cases hm : Hd.may y0 = 0
  · exact byte_good y0 a1 (by omega) (by omega) (UInt8.ofNat c) (Hd.may_good hm) w
  · exact byte_bad y0 a1 (by omega) (by omega) (UInt8.ofNat c) _ rfl hm w

set_option maxRecDepth 100000 in
theorem lifted (os : Os) (started : os.Started) (H : Type) (enc : TypeId × Value → H) :
    ReturnsInHanded {} Try.checked os 7 .any (Rows.headByteSpec.pre6 enc Try.prog Try.f7 Rows.headByteRow.domain false) (Rows.headByteSpec.post enc Try.prog Try.f7 false true false false) := by
  refine returnsInHanded_of_change_sized (C := Try.checked) own started (by kernel_rfl) Try.func7
    (ChangeSpec.witness6 (enc := enc) (C := Try.checked) false ⟨#[], #[.agg #[.string .empty, .string .empty, .int .i64 0, .int .i64 0, .int .i64 0, .int .u8 0, .string .empty], .int .i64 0, .int .u8 0], []⟩ 8 (by kernel_rfl) (by kernel_rfl) (by kernel_rfl) (by kernel_rfl)) ?_
  intro W base args ds gs before hval0 hW hcnd hsz0 _
  have hval : ∀ (j : Nat) t v, Try.f7.params[j]? = some t → args[j]? = some v → Value.okWide Try.prog W .any base t v := hval0
  have hW' := hW
  obtain ⟨p, q, hA0, hV, rfl, hfz, hnd⟩ := hW
  have hA : DataW.TrodAll enc Try.prog W 0 (fun _ => true) true Try.f7.params.toList args.toList ds p := hA0
  have hsz : (DataW.weightsEach Try.prog (Try.f7.params.toList ++ Rows.headByteSpec.plain.varTypes Try.prog) (ds ++ gs)).all (· ≤ reachBytes) = true := hsz0
  rw [Try.params7] at hA hval hsz
  obtain ⟨v0, vs0, d0, ds0, p0, q0, hargs, rfl, rfl, h0, r0⟩ := trodAll_cons hA
  obtain ⟨v1, vs1, d1, ds1, p1, q1, rfl, rfl, rfl, h1, r1⟩ := trodAll_cons r0
  obtain ⟨v2, vs2, d2, ds2, p2, q2, rfl, rfl, rfl, h2, r2⟩ := trodAll_cons r1
  obtain ⟨rfl, rfl, rfl⟩ := trodAll_nil r2
  obtain rfl : args = #[v0, v1, v2] := by cases args; simp_all
  obtain ⟨rfl, rfl⟩ := trodVars_none hV
  have k0 := h0
  have lt0 : ∀ x ∈ p0, x.block < W.heap.size := by obtain ⟨m, hm⟩ := k0; exact DataW.trod_lt m _ _ _ hm
  obtain ⟨y0, rfl, w0⟩ := open_head (hval 0 23 v0 rfl rfl) h0 (fun x hx => by simpa using List.all_eq_true.1 hsz x (DataW.weights_mem_each (j := 0) (t := 23) rfl rfl x hx))
  obtain ⟨a1, rfl, rfl, rfl, w1⟩ := open_int Try.underlying3 (hval 1 3 v1 rfl rfl) h1
  obtain ⟨a2, rfl, rfl, rfl, w2⟩ := open_int Try.underlying5 (hval 2 5 v2 rfl rfl) h2
  clear hA0 hval0
  refine (walk y0 a1 a2 W w0 w1 w2).mono fun e W' ⟨he, bel⟩ => ?_
  subst he
  exact ⟨_, rfl, _, _, _, [], _, [], hW', trodAll_mk1 (shut_bool Try.underlying4 _), (trodAll_cons_mk (Below.trod laidOut (by kernel_rfl) (of_decide_eq_true (by kernel_rfl)) k0 bel lt0) (trodAll_cons_mk (shut_int Try.underlying3 w1) (trodAll_cons_mk (shut_int Try.underlying5 w2) trodAll_mk0))), rfl, bel.frame _, fun h => by cases h⟩

theorem over : Rows.headByteRow.holds Try.pinned (OpenSpec.ofChange Rows.headByteSpec) :=
  OpenClaim.holds_of_wide 7 Try.f7 rfl rfl rfl rfl rfl rfl rfl ⟨rfl, rfl, rfl, rfl, rfl⟩ rfl rfl rfl rfl rfl (by kernel_rfl) Try.func7 (by kernel_rfl)
    (of_decide_eq_true (by kernel_rfl)) (by unfold Func.isWrapper; first | (rw [if_pos (by decide +kernel)]; kernel_rfl) | (rw [if_neg (by decide +kernel)]; exact ⟨rfl, rfl⟩))
    (fun os started H enc _ => lifted os started H enc)

theorem proved : Rows.HeadByteSaid := over
#print axioms proved
end Go.Proofs.Ytkoacehgfmflmaa.headByte
