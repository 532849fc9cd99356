/- Layer 15: putBytes, put. -/
import Derived.Test.YtppknadflmjefaaWJ
namespace Go.Proofs.Ytppknadflmjefaa
open Go.RowKit Go.Deep Go.Maps
set_option linter.unusedVariables false
set_option linter.unusedSimpArgs false

theorem copyU {w : World} {g N : Nat} {F : Nat → Int} (o m cap Ls cb L : Nat) (ty : TypeId) {f : Nat → Int} {B : Option Addr} (hb : BlockIs w g N F) (ho : o + L ≤ N) (hL : L = min Ls m) (hB : RowAt w B L f) :
    ∃ w', (Builtin.copy_ #[37, 37] ty #[.slice (some ⟨g, o, none⟩) m cap, .slice B Ls cb]).run Try.prog w = .ok (goInt L) w' ∧ BlockIs w' g N (cpyF F o L f) ∧ Bx (· = g) w w' := copyT o m cap Ls cb L ty hb ho hL hB
set_option maxRecDepth 100000 in
set_option maxHeartbeats 4000000 in
theorem jputbytes_none {w : World} {gj : Nat} (A : Option Addr) (c : Nat) (x y : Int) :
    Calls Try.prog 72 #[.pointer (some ⟨gj, 0, none⟩), .slice A 0 c, .int .i64 x, .int .i64 y] w fun e w' => e = .returned (.int .i64 0) ∧ w' = w := by
  go_enter Try.func72, Try.ntmps72
  go_wp2
  go_ret
  exact ⟨rfl, rfl⟩
set_option maxRecDepth 100000 in
set_option maxHeartbeats 4000000 in
theorem jputbytes_any {w : World} {base gj g lb gm : Nat} {R : Nat → Prop} {v : Value} {J : Jl.Jn} {S : Dsk} (h : JrAt w base gj g R v J) (hd : DiskAt w g lb gm S) (hin : J.r0 + J.rc ≤ S.n) (B : List Nat) (A : Option Addr) (c : Nat) (hr : RowAt w A B.length (Jl.rowL B)) (hA : ∀ b o, A = some ⟨b, o, none⟩ → 0 < B.length → ¬ dIn g lb gm b) (area at_ : Nat) (ha : area ≤ 1) (hat : at_ + B.length ≤ Jl.room J.rc) (hB0 : 0 < B.length) (hal : S.dead = false) :
    Calls Try.prog 72 #[.pointer (some ⟨gj, 0, none⟩), .slice A B.length c, .int .i64 (area : Int), .int .i64 (at_ : Int)] w fun e w' => e = .returned (.int .i64 (Jl.putB S J.r0 J.rc area at_ B).1) ∧ DiskAt w' g lb gm (Jl.putB S J.r0 J.rc area at_ B).2 ∧ Bx (dIn g lb gm) w w' := by
  have c0 := h.c0
  have c1 := h.c1
  have c2 := h.c2
  have ok := h.ok
  have hrm := Jl.room_le ok.rc
  have HSt := startof_any J.r0 J.rc area ok.rc4 ok.rc ok.r0 ha w
  obtain ⟨st, hst⟩ : ∃ s, Hid (Jl.start J.r0 J.rc area = s) := ⟨_, rfl⟩
  rw [hst.out] at HSt
  have hdn := hd.ok.n1
  obtain ⟨q, hq⟩ : ∃ q, Hid (at_ / 64 = q) := ⟨_, rfl⟩
  obtain ⟨ah, hah⟩ : ∃ a, Hid (at_ % 64 = a) := ⟨_, rfl⟩
  have e1 : (at_ : Int) / 64 = (q : Int) := by have := hq.out; omega
  have e2 : (at_ : Int) % 64 = (ah : Int) := by have := hah.out; omega
  obtain ⟨n, hn⟩ : ∃ n, Hid (B.length = n) := ⟨_, rfl⟩
  rw [hn.out] at hat hB0 hr hA ⊢
  have ah63 : ah ≤ 63 := by have := hah.out; omega
  have nb : n ≤ 2097088 := by omega
  obtain ⟨k, hk⟩ : ∃ k, Hid (Jl.secs (ah + n) = k) := ⟨_, rfl⟩
  have hk1 : ah + n ≤ k * 64 := by rw [← hk.out]; unfold Jl.secs; omega
  have hk0 : 1 ≤ k := by omega
  have hkb : k ≤ 40000 := by rw [← hk.out]; unfold Jl.secs; omega
  have hxk : st + q + k ≤ S.n := by
    have h1 := Jl.inside (r0 := J.r0) (rc := J.rc) (area := area) (len := at_ + n) (by have := ok.rc4; omega) ha hat
    rw [hst.out] at h1
    have h2 : q + k ≤ Jl.secs (at_ + n) := by rw [← hk.out, ← hq.out]; have := hah.out; unfold Jl.secs; omega
    omega
  obtain ⟨x, hx⟩ : ∃ x, Hid (st + q = x) := ⟨_, rfl⟩
  have e3 : (st : Int) + (q : Int) = (x : Int) := by have := hx.out; omega
  rw [hx.out] at hxk
  have hP : Hid (Jl.putB S J.r0 J.rc area at_ B = Jl.last S x k (Jl.rowB (fun i => S.read (64 * x + i)) ah B)) := by
    show _ = _
    unfold Jl.putB
    rw [if_neg (by rw [hn.out]; omega), hal, if_neg (by decide), hst.out, hq.out, hah.out, hx.out, hn.out, hk.out]
  rw [hP.out]
  have HRd : Hid (∀ W, Bw w W → Calls Try.prog 15 #[.pointer (some ⟨g, 0, none⟩), .int .i64 (x : Int), .int .i64 1] W fun e w' => ∃ b, e = .returned (.tuple #[.slice (some ⟨b, 0, none⟩) 64 64, .int .i64 0]) ∧ W.heap.size ≤ b ∧ BlockIs w' b 64 (fun i => S.read (64 * x + i)) ∧ Bw W w') := fun W hb => read_ok (hd.keep hb) x 1 hal (by omega)
  have HSc : Hid (∀ W, Calls Try.prog 67 #[.int .i64 ((ah : Int) + (n : Int))] W fun e w' => e = .returned (.int .i64 (k : Int)) ∧ w' = W) := fun W => by
    have := jsectors_any (ah + n) (by omega) W
    rw [hk.out] at this
    rw [show (ah : Int) + (n : Int) = ((ah + n : Nat) : Int) by omega]
    exact this
  obtain ⟨N, hN⟩ : ∃ N, Hid (k * 64 = N) := ⟨_, rfl⟩
  obtain ⟨M, hM, hM0, hmk⟩ := made_bytes N (by have := hN.out; omega)
  rw [show ((N : Nat) : Int) = (k : Int) * 64 by have := hN.out; omega] at hmk
  have HM : Hid (∀ i, i < N → M[i]? = some (.int .u8 0)) := hM0
  have hbd : Hid (∀ i, 0 ≤ S.read i ∧ S.read i < 256) := fun i => hd.ok.read i
  have HLa : Hid (∀ W b, Bw w W → w.heap.size ≤ b → BlockIs W b N (Jl.rowB (fun i => S.read (64 * x + i)) ah B) → Calls Try.prog 73 #[.pointer (some ⟨gj, 0, none⟩), .int .i64 (x : Int), .slice (some ⟨b, 0, none⟩) N N] W fun e w' => e = .returned (.int .i64 (Jl.last S x k (Jl.rowB (fun i => S.read (64 * x + i)) ah B)).1) ∧ DiskAt w' g lb gm (Jl.last S x k (Jl.rowB (fun i => S.read (64 * x + i)) ah B)).2 ∧ Bx (dIn g lb gm) W w') := fun W b hb hbl hB => by
    have e : N = 64 * k := by have := hN.out; omega
    rw [e] at hB ⊢
    refine jlast_any (hd.keep hb) (h.keep hb).c0 (jd_ne h hd gj (.inl rfl)) x k hxk (some ⟨b, 0, none⟩) (64 * k) _ (hB.row (fun i => ?_)) (fun b' o e h0 hin => ?_) (Nat.le_refl _)
    · unfold Jl.rowB
      split
      · exact hbd.out _
      · exact hr.2 _
    · cases e
      have := hd.low _ hin
      omega
  have HK : Hid (∀ W, Bw w W → W.cell? ⟨gj, 0, none⟩ = some (.pointer (some ⟨g, 0, none⟩))) := fun W hb => (h.keep hb).c0
  have Hr : Hid (RowAt w A n (Jl.rowL B)) := hr
  have hb8 : k * 64 ≤ 9223372036854775807 := by omega
  have k0 : (0 : Int) ≤ (k : Int) := Int.natCast_nonneg _
  have ah0 : (0 : Int) ≤ (ah : Int) := Int.natCast_nonneg _
  have ah1 : (ah : Int) ≤ 64 := by omega
  have hNb : N ≤ 4000000 := by have := hN.out; omega
  have hNa : ah < N := by have := hN.out; omega
  have hNa' : (ah : Int) ≤ (N : Int) := by omega
  have hNn : ah + n ≤ N := by have := hN.out; omega
  have hstb : st ≤ 200000 := by have := hx.out; omega
  have hqb : q ≤ 200000 := by have := hx.out; omega
  have HCp : Hid (∀ w2 b2, Bw w w2 → BlockIs w2 b2 64 (fun i => S.read (64 * x + i)) → ∃ W4 W5, (Builtin.copy_ #[37, 37] 3 #[.slice (some ⟨w2.heap.size, 0, none⟩) N N, .slice (some ⟨b2, 0, none⟩) ah ah]).run Try.prog (w2.alloc (.cells M 5)) = .ok (goInt ah) W4 ∧ (Builtin.copy_ #[37, 37] 3 #[.slice (some ⟨w2.heap.size, ah, none⟩) (N - ah) (N - ah), .slice A n c]).run Try.prog W4 = .ok (goInt n) W5 ∧ Bw w W5 ∧ BlockIs W5 w2.heap.size N (Jl.rowB (fun i => S.read (64 * x + i)) ah B)) := fun w2 b2 hbw hB2 => by
    have hbw3 : Bw w2 (w2.alloc (.cells M 5)) := Below.alloc (Bw.refl _) (Nat.le_refl _) _
    have hB3 : BlockIs (w2.alloc (.cells M 5)) w2.heap.size N (fun _ => 0) := ⟨M, heap_alloc_new _ _, hM, HM.out⟩
    have hr2 : RowAt (w2.alloc (.cells M 5)) (some ⟨b2, 0, none⟩) ah (fun i => S.read (64 * x + i)) := by
      have h1 := (hB2.keep hbw3).row (fun i => hbd.out _)
      rcases h1.1 with h0 | ⟨b', o', e', hc'⟩
      · omega
      · exact ⟨.inr ⟨b', o', e', fun i hi => hc' i (by omega)⟩, h1.2⟩
    obtain ⟨W4, hcp1, hB4, hx4⟩ := copyU (w := w2.alloc (.cells M 5)) 0 N N ah ah ah 3 hB3 (by omega) (by omega) hr2
    have hbw4 : Bw w W4 := bw_bx (hbw.trans hbw3) hx4 hbw.size
    obtain ⟨W5, hcp2, hB5, hx5⟩ := copyU (w := W4) ah (N - ah) (N - ah) n c n 3 hB4 (by omega) (by omega) (hr.keep hbw4)
    refine ⟨W4, W5, hcp1, hcp2, bw_bx hbw4 hx5 hbw.size, hB5.congr (fun i hi => ?_)⟩
    unfold Jl.rowB cpyF
    by_cases h1 : i < ah
    · rw [if_pos h1, if_neg (by omega), if_pos (by omega), Nat.sub_zero]
    · rw [if_neg h1]
      by_cases h2 : i < ah + n
      · rw [if_pos (by omega)]
      · rw [if_neg (by omega), if_neg (by omega)]
        unfold Jl.rowL
        rw [List.getD_eq_getElem?_getD, List.getElem?_eq_none (by rw [hn.out]; omega)]
        rfl
  clear hM0 h hd ok hr hat hrm hxk hk1 ha
  go_enter Try.func72, Try.ntmps72
  go_wp2_with (first
    | (go_at_call 66; refine HSt.mono ?_; rintro e w1 ⟨rfl, hb1⟩; have d0 := HK.out w1 hb1; clear HSt)
    | (go_at_call 15; refine (HRd.out w1 hb1).mono ?_; rintro e w2 ⟨b2, rfl, hb2l, hB2, hb2⟩; have d0' := HK.out w2 (hb1.trans hb2); clear HRd)
    | (go_at_call 67; refine (HSc.out _).mono ?_; rintro e w3 ⟨rfl, hw⟩; obtain rfl := hw.symm; clear HSc; obtain ⟨W4, W5, hcp1, hcp2, hbw5, hB5⟩ := HCp.out w2 b2 (hb1.trans hb2) hB2)
    | (go_at_call 73; refine (HLa.out W5 w2.heap.size hbw5 (hb1.trans hb2).size hB5).mono ?_; rintro e w6 ⟨rfl, hd6, hx6⟩))
  go_ret
  exact ⟨rfl, hd6, (Bx.of_bw hbw5).trans hx6⟩
set_option maxRecDepth 100000 in
theorem jputbytes_dead {w : World} {base gj g lb gm : Nat} {R : Nat → Prop} {v : Value} {J : Jl.Jn} {S : Dsk} (h : JrAt w base gj g R v J) (hd : DiskAt w g lb gm S) (n : Nat) (A : Option Addr) (c : Nat) (area at_ : Nat) (ha : area ≤ 1) (hat : at_ ≤ Jl.room J.rc) (hB0 : 0 < n) (hnb : n ≤ 9223372036854775807) (hal : S.dead = true) :
    Calls Try.prog 72 #[.pointer (some ⟨gj, 0, none⟩), .slice A n c, .int .i64 (area : Int), .int .i64 (at_ : Int)] w fun e w' => e = .returned (.int .i64 140) ∧ Bw w w' := by
  have c0 := h.c0
  have c1 := h.c1
  have c2 := h.c2
  have ok := h.ok
  have hrm := Jl.room_le ok.rc
  have HSt := startof_any J.r0 J.rc area ok.rc4 ok.rc ok.r0 ha w
  obtain ⟨st, hst⟩ : ∃ s, Hid (Jl.start J.r0 J.rc area = s) := ⟨_, rfl⟩
  have hstb : st ≤ 200000 := by rw [← hst.out]; unfold Jl.start Jl.half; have h1 := ok.r0; have h2 := ok.rc; rcases Nat.le_one_iff_eq_zero_or_eq_one.1 ha with rfl | rfl <;> omega
  rw [hst.out] at HSt
  obtain ⟨q, hq⟩ : ∃ q, Hid (at_ / 64 = q) := ⟨_, rfl⟩
  obtain ⟨ah, hah⟩ : ∃ a, Hid (at_ % 64 = a) := ⟨_, rfl⟩
  have e1 : (at_ : Int) / 64 = (q : Int) := by have := hq.out; omega
  have e2 : (at_ : Int) % 64 = (ah : Int) := by have := hah.out; omega
  have hqb : q ≤ 40000 := by have := hq.out; omega
  have HRd : Hid (∀ W, Bw w W → Calls Try.prog 15 #[.pointer (some ⟨g, 0, none⟩), .int .i64 ((st : Int) + (q : Int)), .int .i64 1] W fun e w' => e = .returned (.tuple #[.slice none 0 0, .int .i64 140]) ∧ w' = W) := fun W hb => by
    have hre : S.readE ((st : Int) + (q : Int)) 1 = 140 := by unfold Dsk.readE; rw [hal, if_pos rfl]
    have := read_bad (hd.keep hb) ((st : Int) + (q : Int)) 1 (by omega) (by rw [hre]; decide)
    rwa [hre] at this
  have HK : Hid (∀ W, Bw w W → W.cell? ⟨gj, 0, none⟩ = some (.pointer (some ⟨g, 0, none⟩))) := fun W hb => (h.keep hb).c0
  clear h hd ok hrm hat ha
  go_enter Try.func72, Try.ntmps72
  go_wp2_with (first
    | (go_at_call 66; refine HSt.mono ?_; rintro e w1 ⟨rfl, hb1⟩; have d0 := HK.out w1 hb1; clear HSt)
    | (go_at_call 15; refine (HRd.out w1 hb1).mono ?_; rintro e w2 ⟨rfl, hw⟩; obtain rfl := hw.symm))
  go_ret
  exact ⟨rfl, hb1⟩
theorem jputbytes_all {w : World} {base gj g lb gm : Nat} {R : Nat → Prop} {v : Value} {J : Jl.Jn} {S : Dsk} (h : JrAt w base gj g R v J) (hd : DiskAt w g lb gm S) (hin : J.r0 + J.rc ≤ S.n) (B : List Nat) (A : Option Addr) (c : Nat) (hr : RowAt w A B.length (Jl.rowL B)) (hA : ∀ b o, A = some ⟨b, o, none⟩ → 0 < B.length → ¬ dIn g lb gm b) (area at_ : Nat) (ha : area ≤ 1) (hat : at_ + B.length ≤ Jl.room J.rc) :
    Calls Try.prog 72 #[.pointer (some ⟨gj, 0, none⟩), .slice A B.length c, .int .i64 (area : Int), .int .i64 (at_ : Int)] w fun e w' => e = .returned (.int .i64 (Jl.putB S J.r0 J.rc area at_ B).1) ∧ DiskAt w' g lb gm (Jl.putB S J.r0 J.rc area at_ B).2 ∧ Bx (dIn g lb gm) w w' := by
  by_cases hB0 : B.length = 0
  · have hP : Jl.putB S J.r0 J.rc area at_ B = (0, S) := by unfold Jl.putB; rw [if_pos hB0]
    rw [hP, hB0]
    exact (jputbytes_none A c _ _).mono (fun e w' ⟨h1, h2⟩ => ⟨h1, by rw [h2]; exact hd, by rw [h2]; exact Bx.refl _ _⟩)
  · cases hal : S.dead with
    | false => exact jputbytes_any h hd hin B A c hr hA area at_ ha hat (by omega) hal
    | true =>
      have hP : Jl.putB S J.r0 J.rc area at_ B = (140, S) := by unfold Jl.putB; rw [if_neg hB0, hal, if_pos rfl]
      rw [hP]
      have := Jl.room_le h.ok.rc
      exact (jputbytes_dead h hd B.length A c area at_ ha (by omega) (by omega) (by omega) hal).mono (fun e w' ⟨h1, h2⟩ => ⟨h1, hd.keep h2, Bx.of_bw h2⟩)
end Go.Proofs.Ytppknadflmjefaa
