/- Layer 15: the document's write, walked. -/
import Derived.Test.YtppknadflmjefaaQf
import Derived.Deep.CutBlock
namespace Go.Proofs.Ytppknadflmjefaa
open Go.RowKit Go.Deep Go.Maps
set_option linter.unusedVariables false
set_option linter.unusedSimpArgs false

/-- a head's bytes, so many of its count laid -/
def hb1 (n i j : Nat) : Int := if j < i then ((Jl.byt n (7 - j) : Nat) : Int) else if 56 ≤ j ∧ j < 56 + i then ((Jl.byt n (63 - j) : Nat) : Int) else 0
/-- .. and so many of its length -/
def hb2 (nx : Jl.Hed) (i j : Nat) : Int := if 9 + i ≤ j ∧ j < 13 then 0 else Jl.hb nx j
theorem hb2_zero (nx : Jl.Hed) (j : Nat) (hj : j ≠ 8) (hj2 : j < 64) : hb2 nx 0 j = hb1 nx.n 8 j := by
  unfold hb2 hb1 Jl.hb
  by_cases h1 : j < 8
  · rw [if_neg (by omega), if_pos h1, if_pos h1]
  · by_cases h2 : j < 13
    · rw [if_pos (by omega), if_neg h1, if_neg (by omega)]
    · rw [if_neg (by omega), if_neg h1, if_neg hj, if_neg h2, if_neg h1]
theorem row_take15 {w : World} {A : Option Addr} {n m : Nat} {f : Nat → Int} (h : RowAt w A n f) (hm : m ≤ n) : RowAt w A m f := by
  refine ⟨?_, h.2⟩
  rcases h.1 with h0 | ⟨b, o, e, hc⟩
  · exact .inl (by omega)
  · exact .inr ⟨b, o, e, fun i hi => hc i (by omega)⟩
theorem below_nil15 {w w' : World} (h : w.grownBy w' (Value.slice none 0 0).ownBlock) : Bw w w' := by
  have h1 := bx_grown h
  exact h1.below (Nat.le_refl _) (fun b e => by cases e)
set_option maxRecDepth 100000 in
set_option maxHeartbeats 16000000 in
theorem rjwrite15_any {w : World} {base gj g cb cap : Nat} {R : Nat → Prop} {v : Value} {J : Jl.Jn} {S : Dsk} (h : RjAt w base gj g R v J) (hd : ∃ LV WV, RefAt w g cb cap LV WV S) (hR : ∀ b, R b → ¬ rIn g cb b) (hin : J.r0 + J.rc ≤ S.n) (B : List Nat) (A : Option Addr) (c : Nat) (hr : RowAt w A B.length (Jl.rowL B)) (hA : ∀ b o, A = some ⟨b, o, none⟩ → 0 < B.length → ¬ (rIn g cb b ∨ b = gj)) (hAn : A = none → c = 0) (area at_ : Nat) (ha : area ≤ 1) (hat : at_ + B.length ≤ Jl.room J.rc) (hdead : J.dead = false) (hB1 : B.length ≤ 1000000) :
    Calls Try.prog 62 #[.pointer (some ⟨gj, 0, none⟩), .int .i64 (area : Int), .int .i64 (at_ : Int), .slice A B.length c] w fun e w' => RPutV base gj g cb cap R v (Jl.put J S B area at_) w e w' := by
  have hok := h.ok
  obtain ⟨LV, WV, hd1⟩ := hd
  have hn1 := hd1.ok.n1
  have c7 := h.c7
  have f7 := h.fz 7
  have hgj := h.lt
  obtain ⟨W1, hW1⟩ : ∃ W, W = w.setCell ⟨gj, 7, none⟩ (.bool true) := ⟨_, rfl⟩
  have hX1 : Bx (· = gj) w W1 := by rw [hW1]; exact (Bx.refl _ _).put rfl
  have hS1 : Hid (WrAt w base gj g cb cap R v J A B S W1) := by
    refine (?_ : WrAt w base gj g cb cap R v J A B S W1)
    have hj := h.setDead true
    rw [← hW1] at hj
    exact ⟨⟨LV, WV, hd1.keepj h (fun b e => .inl e) hX1⟩, hj, hr.keepx hX1 (fun b o e h0 hb => hA b o e h0 (.inr hb)), hX1.more (fun b e => .inr e)⟩
  have HTurn : Hid (∀ S2 S3 u u', WrAt w base gj g cb cap R v J A B S2 u → (∃ LV WV, RefAt u' g cb cap LV WV S3) → Bx (rIn g cb) u u' → WrAt w base gj g cb cap R v J A B S3 u') := fun S2 S3 u u' k1 k2 k3 => k1.turn hR hA k2 k3
  obtain ⟨n, hBn⟩ : ∃ n, Hid (B.length = n) := ⟨_, rfl⟩
  obtain ⟨r0, hr0⟩ : ∃ n, Hid (J.r0 = n) := ⟨_, rfl⟩
  obtain ⟨rc, hrc⟩ : ∃ n, Hid (J.rc = n) := ⟨_, rfl⟩
  obtain ⟨hf, hhf⟩ : ∃ n, Hid (Jl.half J.rc = n) := ⟨_, rfl⟩
  have hrm : Hid (Jl.room J.rc = hf * 64) := by rw [← hhf.out]; rfl
  have h2hf : Hid (2 * hf + 2 ≤ rc) := by
    have h1 := hok.rc4
    have h2 : Jl.half J.rc = (J.rc - 2) / 2 := rfl
    have h3 := hhf.out
    have h4 := hrc.out
    exact (by omega : 2 * hf + 2 ≤ rc)
  have HH : Hid (∀ u, Calls Try.prog 55 #[.agg #[.int .i64 (r0 : Int), .int .i64 (rc : Int)]] u fun e w' => e = .returned (.int .i64 (hf : Int)) ∧ Bw u w') := fun u => by
    rw [← hr0.out, ← hrc.out, ← hhf.out]
    exact rhalf15_any _ J.rc hok.rc4 hok.rc u
  rw [hrm.out, hBn.out] at hat
  have rcb : rc ≤ 65536 := by rw [← hrc.out]; exact hok.rc
  have r0b : r0 ≤ 65536 := by rw [← hr0.out]; exact hok.r0
  have hfb : hf ≤ 32768 := by have := h2hf.out; omega
  obtain ⟨ah, hah⟩ : ∃ n, Hid (area * hf = n) := ⟨_, rfl⟩
  have hahb : ah ≤ hf := by
    have := hah.out
    rcases Nat.le_one_iff_eq_zero_or_eq_one.1 ha with rfl | rfl <;> omega
  obtain ⟨aq, haq⟩ : ∃ n, Hid (at_ / 64 = n) := ⟨_, rfl⟩
  obtain ⟨x, hx⟩ : ∃ n, Hid (r0 + 2 + ah + aq = n) := ⟨_, rfl⟩
  have hxs : Hid (Jl.start J.r0 J.rc area + at_ / 64 = x) := by
    show _ = _
    unfold Jl.start
    rw [hr0.out, hhf.out, hah.out, haq.out, hx.out]
  have haqb : aq ≤ 32768 := by have := haq.out; omega
  have v1 : IntKind.i64.wrap ((r0 : Int) + 2) = (r0 : Int) + 2 := by rw [IntKind.wrap_i64]; omega
  have v2 : IntKind.i64.wrap ((area : Int) * (hf : Int)) = (ah : Int) := by
    have h1 : (area : Int) * (hf : Int) = (ah : Int) := by rw [← Int.natCast_mul, hah.out]
    rw [h1, IntKind.wrap_i64]; omega
  have v3 : IntKind.i64.wrap ((r0 : Int) + 2 + (ah : Int)) = (r0 : Int) + 2 + (ah : Int) := by rw [IntKind.wrap_i64]; omega
  have v4 : IntKind.i64.wrap ((at_ : Int) / 64) = (aq : Int) := by rw [IntKind.wrap_i64]; have := haq.out; omega
  have v5 : IntKind.i64.wrap ((r0 : Int) + 2 + (ah : Int) + (aq : Int)) = (x : Int) := by rw [IntKind.wrap_i64]; have := hx.out; omega
  have HC : Hid (∀ u, Bw W1 u → u.cell? ⟨gj, 1, none⟩ = some (.int .i64 (r0 : Int)) ∧ u.cell? ⟨gj, 2, none⟩ = some (.int .i64 (rc : Int)) ∧ u.cell? ⟨gj, 0, none⟩ = some (.pointer (some ⟨g, 0, none⟩))) := fun u ku => by
    have h1 := (hS1.out.keep ku).j
    have q1 := h1.c1
    have q2 := h1.c2
    dsimp only at q1 q2
    rw [hr0.out] at q1
    rw [hrc.out] at q2
    exact ⟨q1, q2, h1.c0⟩
  rw [hBn.out]
  obtain ⟨d1, d2, d0⟩ := HC.out W1 (Bw.refl _)
  clear h hd1 hX1 hr
  go_enter Try.func62, Try.ntmps62
  go_upto_region 2 with fail
  rw [← hW1]
  clear hW1 c7 f7
  go_region_held3 (fun w' => w'.cell? ⟨gj, 1, none⟩ = some (.int .i64 (r0 : Int)) ∧ w'.cell? ⟨gj, 2, none⟩ = some (.int .i64 (rc : Int)))
    (first | exact ⟨d1, d2⟩ | exact ⟨q1, q2⟩ | assumption)
    (first | (go_at_call 55; refine (HH.out _).mono ?_; rintro e w2 ⟨rfl, hb2⟩; have hb2' : Bw W1 w2 := Bw.trans ((Bw.refl W1).drew) hb2; obtain ⟨q1, q2, q0⟩ := HC.out w2 hb2'))
  have hS2 : Hid (WrAt w base gj g cb cap R v J A B S w2) := hS1.out.keep hb2'
  have HC2 : Hid (∀ S' u, WrAt w base gj g cb cap R v J A B S' u → u.cell? ⟨gj, 0, none⟩ = some (.pointer (some ⟨g, 0, none⟩))) := fun S' u hu => hu.j.c0
  clear v1 v2 v3 v4 v5 HC d1 d2 d0 q1 q2 q0 hb2 HH hS1
  obtain ⟨ad, had⟩ : ∃ n, Hid (at_ % 64 = n) := ⟨_, rfl⟩
  have hadb : ad < 64 := by have := had.out; omega
  have x0 : (0 : Int) ≤ (x : Int) := Int.natCast_nonneg _
  have hxb : x ≤ 200000 := by have := hx.out; omega
  have hxin : Hid (0 < n → x + Jl.secs (ad + n) ≤ S.n) := fun hn => by
    have h1 := hx.out; have h2 := had.out; have h3 := haq.out; have h4 := h2hf.out; have h5 := hr0.out; have h6 := hrc.out
    unfold Jl.secs
    have h7 : (ad + n + 63) / 64 + aq ≤ hf := by omega
    have h8 : ah + hf ≤ 2 * hf := by omega
    omega
  have hput : Hid (0 < n → Jl.putB S J.r0 J.rc area at_ B = if S.dead then (140, S) else Jl.last S x (Jl.secs (ad + n)) (Jl.rowB (fun i => S.read (64 * x + i)) ad B)) := fun hn => by
    unfold Jl.putB
    rw [hBn.out, if_neg (by omega), hxs.out, had.out]
  have hput0 : Hid (n = 0 → Jl.putB S J.r0 J.rc area at_ B = (0, S)) := fun hn => by
    unfold Jl.putB
    rw [hBn.out, if_pos hn]
  have HBad : Hid (∀ S1 E u, E ≠ 0 → Jl.putB S J.r0 J.rc area at_ B = (E, S1) → WrAt w base gj g cb cap R v J A B S1 u → RPutV base gj g cb cap R v (Jl.put J S B area at_) w (.returned (.int .i64 E)) u) := fun S1 E u hE hp hw => by
    rw [Jl.put_bad hp hE]
    exact ⟨rfl, hw.d, hw.j, hw.bx⟩
  have HRd0 : Hid (S.dead = true → ∀ u, WrAt w base gj g cb cap R v J A B S u → Calls Try.prog 16 #[.pointer (some ⟨g, 0, none⟩), .int .i64 (x : Int), .int .i64 1] u fun e w' => e = .returned (.tuple #[.slice none 0 0, .int .i64 140]) ∧ w' = u) := fun hdd u hu => by
    obtain ⟨LV2, WV2, h2⟩ := hu.d
    have hE : S.readE (x : Int) 1 = 140 := by unfold Dsk.readE; rw [hdd]; rfl
    have h1 := rread_bad h2 (x : Int) 1 (by omega) (by rw [hE]; decide)
    rw [hE] at h1
    exact h1
  have HRd1 : Hid (S.dead = false → 0 < n → ∀ u, WrAt w base gj g cb cap R v J A B S u → Calls Try.prog 16 #[.pointer (some ⟨g, 0, none⟩), .int .i64 (x : Int), .int .i64 1] u fun e w' => RReadEnds2 u 64 (fun i => S.read (64 * x + i)) e w') := fun hdd hn u hu => by
    obtain ⟨LV2, WV2, h2⟩ := hu.d
    have h3 := hxin.out hn
    have h4 : 1 ≤ Jl.secs (ad + n) := by unfold Jl.secs; omega
    exact rread2_ok h2 x 1 hdd (by omega)
  have hread : Hid (∀ i, 0 ≤ S.read (64 * x + i) ∧ S.read (64 * x + i) < 256) := fun i => by
    obtain ⟨LV2, WV2, h2⟩ := hS2.out.d
    exact h2.ok.read _
  obtain ⟨i1, hi1, hy0, hy1, hy2⟩ := info_parts info_u8
  go_upto_if 42 with fail
  go_cut [42] from 42 to 42 (fun _ wx => ∃ S1, Hid (Jl.putB S J.r0 J.rc area at_ B = (0, S1)) ∧ Hid (WrAt w base gj g cb cap R v J A B S1 wx))
  case first =>
    by_cases hn0 : n = 0
    · subst hn0
      have hp := hput0.out rfl
      replace hp : Hid (Jl.putB S J.r0 J.rc area at_ B = (0, S)) := hp
      clear hput hput0
      go_wp2
      go_meet
      case rel => exact ⟨S, hp, hS2⟩
    · have hn1' : (0 : Int) < (n : Int) := by omega
      have hnp : 0 < n := by omega
      have hp := hput.out hnp
      have had0 : (at_ : Int) % 64 = (ad : Int) := by have := had.out; omega
      obtain ⟨bs, hbs⟩ : ∃ q, Hid (w2.heap.size = q) := ⟨_, rfl⟩
      obtain ⟨F, hF⟩ : ∃ F : Nat → Int, Hid ((fun i => S.read (64 * x + i)) = F) := ⟨_, rfl⟩
      rw [hF.out] at hp HRd1
      go_upto_if 46 with fail
      rw [had0]
      go_cut [11] from 42 to 46 (fun v11 wx => Hid (wx.ownsRow bs 5 1 v11 ad (cellsU F ad)) ∧ Hid (WrAt w base gj g cb cap R v J A B S wx) ∧ Hid (Bw w2 wx) ∧ Hid (S.dead = true → ad = 0))
      case first =>
        by_cases hd0 : ad = 0
        · subst hd0
          have hr0' : Hid (w2.ownsRow bs 5 1 (.slice none 0 0) 0 (cellsU F 0)) := World.ownsRow_nil _ _ _ _
          have hbw0 : Hid (Bw w2 w2) := Bw.refl _
          clear hn1'
          go_wp2
          go_meet
          case rel => exact ⟨hr0', hS2, hbw0, fun _ => trivial⟩
        · have hd1 : (0 : Int) < (ad : Int) := by omega
          cases hdd : S.dead
          · have HR := HRd1.out hdd hnp w2 hS2.out
            have hd64 : (ad : Int) ≤ 64 := by omega
            have hbsl : Hid (bs ≤ w2.heap.size) := by have := hbs.out; exact (by omega : bs ≤ w2.heap.size)
            have q0 := HC2.out _ _ hS2.out
            have hmx : Hid (0 + ad ≤ maxLen) := by show _ ≤ _; unfold maxLen; omega
            have hmb : Hid ((0 + ad) * 1 ≤ 140737488355328) := by show _ ≤ _; omega
            have had64 : Hid (ad ≤ 64) := by show _ ≤ _; omega
            clear hp hd0 hn1' hnp
            go_wp2_with (first
              | (go_at_call 16; refine HR.mono ?_; rintro e w3 ⟨A2, c2, rfl, hc64, hcm, hrow2, hb3⟩; obtain ⟨b2, o2, rfl, -⟩ := hrow2.at (k := 0) (by decide); replace hrow2 : Hid (RowAt w3 (some ⟨b2, o2, none⟩) 64 F) := hrow2; replace hb3 : Hid (Bw w2 w3) := hb3; have hc2i : (ad : Int) ≤ (c2 : Int) := by (have := had64.out; omega))
              | (at_builtin; refine wpList_append_rowat _ (by rfl) (.tmp 59) (.tmp 62) _ (by rfl) bs 5 i1 _ 1 Try.underlying37 hi1 hy0 hy1 hy2 rfl _ _ _ (by rfl) (World.ownsRow_nil _ _ _ _) (some ⟨b2, o2, none⟩) ad c2 F (by rfl) (row_take15 hrow2.out had64.out) (fun e => by cases e) hmx.out hmb.out (Nat.le_trans hbsl.out hb3.out.size) ?_; intro v4 w4 hown4 hgrow4; replace hown4 : Hid (w4.ownsRow bs 5 1 v4 ad (cellsU F ad)) := (by rw [Nat.zero_add, List.nil_append] at hown4; exact hown4); have hb4 : Hid (Bw w3 w4) := below_nil15 hgrow4; clear hgrow4))
            go_meet
            case rel => exact ⟨hown4, hS2.out.keep (hb3.out.trans hb4.out), hb3.out.trans hb4.out, fun e => by rw [hdd] at e; cases e⟩
          · rw [hdd, if_pos rfl] at hp
            have hE := HBad.out S 140 w2 (by decide) hp hS2.out
            replace hE := (show Hid (RPutV base gj g cb cap R v (Jl.put J S B area at_) w _ w2) from hE)
            have HR := HRd0.out hdd w2 hS2.out
            have q0 := HC2.out _ _ hS2.out
            clear hp hd0 hn1' hnp hput hput0
            go_wp2_with (go_at_call 16; refine HR.mono ?_; rintro e w3 ⟨rfl, hw⟩; obtain rfl := hw.symm)
            go_ret
            exact hE.out
      case rest =>
        obtain ⟨hown, hSx, hbx, hdz⟩ := hcut
        obtain ⟨q, hq⟩ : ∃ q, Hid (Jl.secs (ad + n) = q) := ⟨_, rfl⟩
        obtain ⟨f, hf'⟩ : ∃ f, Hid (Jl.rowB F ad B = f) := ⟨_, rfl⟩
        have hFb : ∀ i, 0 ≤ F i ∧ F i < 256 := fun i => by rw [← hF.out]; exact hread.out i
        have hBb : ∀ i, 0 ≤ Jl.rowL B i ∧ Jl.rowL B i < 256 := hSx.out.b.2
        have hfb' : Hid (∀ i, 0 ≤ f i ∧ f i < 256) := fun i => by
          rw [← hf'.out]; unfold Jl.rowB
          split
          · exact hFb i
          · exact hBb _
        have hf0 : Hid (∀ k, ad + n ≤ k → f k = 0) := fun k hk => by
          rw [← hf'.out]; unfold Jl.rowB
          rw [if_neg (by omega)]
          unfold Jl.rowL
          rw [List.getD_eq_getElem?_getD, List.getElem?_eq_none (by have := hBn.out; omega)]
          rfl
        have hqv : Hid (q = (ad + n + 63) / 64) := hq.out.symm
        have hqx : Hid (x + q ≤ S.n) := by have := hxin.out hnp; rw [hq.out] at this; exact this
        have hP : Hid (Jl.putB S J.r0 J.rc area at_ B = if (S.wrote (x : Int) (64 * q) f).1 = 0 then (S.wrote (x : Int) (64 * q) f).2.syncs else S.wrote (x : Int) (64 * q) f) := by
          show _ = _
          rw [hp, hq.out, hf'.out]
          cases hdd : S.dead
          · rw [if_neg (by decide)]; exact last_wrote f hqx.out
          · rw [if_pos rfl, wrote_in f hqx.out, hdd]; rfl
        have hbs2 : Hid (∀ u, Bw w2 u → bs ≤ u.heap.size) := fun u ku => by have := ku.size; have := hbs.out; omega
        have hBel : Hid (∀ u, Bw w2 u ↔ Below bs w2 u) := fun u => by rw [← hbs.out]
        have hdisk : Hid (∀ b, rIn g cb b → b < bs) := fun b hb => by
          obtain ⟨LV2, WV2, h2⟩ := hS2.out.d
          have := h2.low b hb
          have := hbs.out
          omega
        have hm1 : Hid (ad + n ≤ maxLen) := by show _ ≤ _; unfold maxLen; omega
        have hm2 : Hid ((ad + n) * 1 ≤ 140737488355328) := by show _ ≤ _; omega
        have happ : Hid (cellsU F ad ++ cellsU (Jl.rowL B) n = cellsU f (ad + n)) := by
          refine (?_ : _ = _)
          rw [← hf'.out]
          unfold cellsU
          rw [List.range_add, List.map_append, List.map_map]
          congr 1
          · refine List.map_congr_left (fun i hi => ?_)
            have hi := List.mem_range.1 hi
            unfold Jl.rowB
            rw [if_pos hi]
          · refine List.map_congr_left (fun i hi => ?_)
            show _ = Value.int .u8 (Jl.rowB F ad B (ad + i))
            unfold Jl.rowB
            rw [if_neg (by omega), Nat.add_sub_cancel_left]
        have hrB : Hid (RowAt wc A n (Jl.rowL B)) := by have := hSx.out.b; rw [hBn.out] at this; exact this
        clear hp hFb hBb hput hput0
        go_upto_block 0 with (at_builtin; refine wpList_append_rowat _ (by rfl) (.tmp 64) (.tmp 65) _ (by rfl) bs 5 i1 _ 1 Try.underlying37 hi1 hy0 hy1 hy2 rfl _ _ _ (by rfl) hown.out A n c (Jl.rowL B) (by rfl) hrB.out hAn hm1.out hm2.out (hbs2.out _ hbx.out) ?_; intro v5 w5 hown5 hgrow5; have hb5 : Hid (Bw w2 w5) := (hBel.out _).2 (bw_grow hgrow5 ((hBel.out _).1 hbx.out) (hbs2.out _ hbx.out) hown.out); rw [happ.out] at hown5; replace hown5 : Hid (w5.ownsRow bs 5 1 v5 (ad + n) (cellsU f (ad + n))) := hown5; clear hgrow5)
        obtain ⟨L, hL⟩ : ∃ L, Hid (64 * q = L) := ⟨_, rfl⟩
        have hnb : n ≤ 1000000 := by rw [← hBn.out]; exact hB1
        go_wp2
        go_loopw [11] (fun v11 wr => ∃ k : Nat, ad + n ≤ k ∧ k ≤ L ∧ Hid (wr.ownsRow bs 5 1 v11 k (cellsU f k)) ∧ Hid (Bw w2 wr)) (fun v11 _ => match v11 with | .slice _ n _ => L - n | _ => 0)
        case atStart => exact ⟨ad + n, Nat.le_refl _, by have := hqv.out; have := hL.out; omega, hown5, hb5⟩
        case round =>
          obtain ⟨k, hk1, hk2, hok2, hbk⟩ := hrel
          clear hown5 hb5 hown hSx hbx
          obtain ⟨A6, c6, e6, hk6, hc6, hrow6, hA6⟩ := row_of_own hfb'.out hok2.out
          subst e6
          have hkb : k ≤ 2000000 := by have := hqv.out; have := hL.out; omega
          by_cases hlt : k < L
          · have t1 : ((k : Int) % 64 != 0) = true := by
              have := hqv.out
              have := hL.out
              rw [bne_iff_ne]
              omega
            have hz : Hid (f k = 0) := hf0.out k hk1
            have hmx : Hid (k + 1 ≤ maxLen) := by show _ ≤ _; unfold maxLen; omega
            have hmb : Hid ((k + 1) * 1 ≤ 140737488355328) := by show _ ≤ _; omega
            have hone : Hid (RowAt (wr.alloc (.cells #[.int .u8 0] 5)) (some ⟨wr.heap.size, 0, none⟩) 1 (fun _ => 0)) := row_new wr _ _ 1 _ (fun _ => ⟨Int.le_refl _, by show (0 : Int) < 256; decide⟩) (fun i hi => by obtain rfl : i = 0 := (by omega); rfl)
            have hsz := hbs2.out _ hbk.out
            clear hrow6 hA6 hk2
            go_wp2_with (at_builtin; refine wpList_append_rowat _ (by rfl) (.tmp 71) (.tmp 72) _ (by rfl) bs 5 i1 _ 1 Try.underlying37 hi1 hy0 hy1 hy2 rfl _ _ _ (by rfl) (hok2.out.alloc _) (some ⟨wr.heap.size, 0, none⟩) 1 1 (fun _ => 0) (by rfl) hone.out (fun e => by cases e) hmx.out hmb.out (Nat.le_trans hsz (by rw [size_alloc]; omega)) ?_; intro v7 w7 hown7 hgrow7; have hb7 : Hid (Bw w2 w7) := (hBel.out _).2 (bw_grow hgrow7 (Below.alloc ((hBel.out _).1 hbk.out) hsz _) (Nat.le_trans hsz (by rw [size_alloc]; omega)) (hok2.out.alloc _)); replace hown7 : Hid (w7.ownsRow bs 5 1 v7 (k + 1) (cellsU f (k + 1))) := (by rw [cellsU_succ, hz.out]; exact hown7); clear hgrow7; obtain ⟨A8, c8, e8, -⟩ := row_of_own hfb'.out hown7.out; subst e8)
            go_roundw
            case rel => exact ⟨k + 1, by omega, by omega, hown7, hb7⟩
            case measure => (show L - (k + 1) < L - k; omega)
          · obtain rfl : k = L := by omega
            have t1 : ((k : Int) % 64 != 0) = false := by
              have := hL.out
              rw [bne_eq_false_iff_eq]
              omega
            have hP2 := hP.out
            rw [hL.out] at hP2
            obtain ⟨Wt, hWt⟩ : ∃ Wt, Hid (S.wrote (x : Int) k f = Wt) := ⟨_, rfl⟩
            rw [hWt.out] at hP2
            have hSr : Hid (WrAt w base gj g cb cap R v J A B S wr) := hS2.out.keep hbk.out
            have HW : Hid (Calls Try.prog 18 #[.pointer (some ⟨g, 0, none⟩), .int .i64 (x : Int), .slice A6 k c6] wr fun e w' => e = .returned (.int .i64 Wt.1) ∧ Hid (WrAt w base gj g cb cap R v J A B Wt.2 w')) := by
              refine (?_ : Calls _ _ _ _ _)
              obtain ⟨LV2, WV2, h2⟩ := hSr.out.d
              rw [← hWt.out]
              refine (rwrite_any h2 (x : Int) (by omega) A6 k c6 f (by omega) hrow6 (fun b o e h0 hb => by have h3 := (hA6 _ e).1; have h4 := hdisk.out b hb; dsimp only at h3; omega) hk6).mono ?_
              rintro e w' ⟨h3, ⟨WV3, h4⟩, h5⟩
              exact ⟨h3, HTurn.out S _ _ _ hSr.out ⟨_, _, h4⟩ h5⟩
            have HSy : Hid (∀ u, WrAt w base gj g cb cap R v J A B Wt.2 u → Calls Try.prog 77 #[.pointer (some ⟨g, 0, none⟩)] u fun e w' => e = .returned (.int .i64 Wt.2.syncs.1) ∧ Hid (WrAt w base gj g cb cap R v J A B Wt.2.syncs.2 w')) := fun u hu => by
              obtain ⟨LV2, WV2, h2⟩ := hu.d
              refine (rsync_any h2).mono ?_
              rintro e w' ⟨h3, h4, h5⟩
              exact ⟨h3, HTurn.out _ _ _ _ hu h4 h5⟩
            have q0 := HC2.out _ _ hSr.out
            clear hP hk1 hk2 hlt hrow6 hA6
            by_cases hw0 : Wt.1 = 0
            · rw [if_pos hw0] at hP2
              rw [hw0] at HW
              obtain ⟨Sy, hSy⟩ : ∃ Sy, Hid (Wt.2.syncs = Sy) := ⟨_, rfl⟩
              rw [hSy.out] at hP2 HSy
              by_cases hs0 : Sy.1 = 0
              · have hPx : Hid (Jl.putB S J.r0 J.rc area at_ B = (0, Sy.2)) := by rw [← hs0]; exact hP2
                rw [hs0] at HSy
                clear hP2 hs0 hw0
                go_wp2_with (first
                  | (go_at_call 18; refine HW.out.mono ?_; rintro e w8 ⟨rfl, hS8⟩; have q8 := HC2.out _ _ hS8.out)
                  | (go_at_call 77; refine (HSy.out _ hS8.out).mono ?_; rintro e w9 ⟨rfl, hS9⟩))
                go_meet
                case rel => exact ⟨_, hPx, hS9⟩
              · have hE1 : (Sy.1 != 0) = true := by rw [bne_iff_ne]; exact hs0
                have hPx : Hid (∀ u, WrAt w base gj g cb cap R v J A B Sy.2 u → RPutV base gj g cb cap R v (Jl.put J S B area at_) w (.returned (.int .i64 Sy.1)) u) := fun u hu => HBad.out Sy.2 Sy.1 u hs0 hP2 hu
                clear hP2 hs0 hw0
                go_wp2_with (first
                  | (go_at_call 18; refine HW.out.mono ?_; rintro e w8 ⟨rfl, hS8⟩; have q8 := HC2.out _ _ hS8.out)
                  | (go_at_call 77; refine (HSy.out _ hS8.out).mono ?_; rintro e w9 ⟨rfl, hS9⟩))
                go_ret
                exact hPx.out _ hS9.out
            · rw [if_neg hw0] at hP2
              have hE1 : (Wt.1 != 0) = true := by rw [bne_iff_ne]; exact hw0
              have hE2 : (Wt.1 == 0) = false := by rw [beq_eq_false_iff_ne]; exact hw0
              have hPx : Hid (∀ u, WrAt w base gj g cb cap R v J A B Wt.2 u → RPutV base gj g cb cap R v (Jl.put J S B area at_) w (.returned (.int .i64 Wt.1)) u) := fun u hu => HBad.out Wt.2 Wt.1 u hw0 hP2 hu
              clear hP2 hw0
              go_wp2_with (go_at_call 18; refine HW.out.mono ?_; rintro e w8 ⟨rfl, hS8⟩)
              go_ret
              exact hPx.out _ hS8.out
  case rest =>
    obtain ⟨S1, hp, hSc⟩ := hcut
    clear HRd0 HRd1 hread hput hput0 hxin hS2 hn1
    obtain ⟨N, hN⟩ : ∃ N, Hid (J.h.n = N) := ⟨_, rfl⟩
    obtain ⟨N1, hN1⟩ : ∃ N1, Hid ((N + 1) % 18446744073709551616 = N1) := ⟨_, rfl⟩
    have c3 : wc.cell? ⟨gj, 3, none⟩ = some (.int .u64 (N : Int)) := by have h1 := hSc.out.j.c3; dsimp only at h1; rw [hN.out] at h1; exact h1
    have hNb : N < 18446744073709551616 := by rw [← hN.out]; exact hok.fit.1
    have hN1b : N1 < 18446744073709551616 := by have := hN1.out; omega
    have hwN : IntKind.u64.wrap ((N : Int) + 1) = (N1 : Int) := by rw [IntKind.wrap_u64]; have := hN1.out; omega
    obtain ⟨M, hM, hM0, hmk⟩ := made_bytes 64 (by omega)
    replace hmk : ∀ w, (Instr.makeSlice 37 (.int .i64 64) (.int .i64 64)).run Try.prog w = .ok (.slice (some ⟨w.heap.size, 0, none⟩) 64 64) (w.alloc (.cells M 5)) := hmk
    obtain ⟨z, hz⟩ : ∃ z, Hid (wc.heap.size = z) := ⟨_, rfl⟩
    obtain ⟨W3, hW3⟩ : ∃ W, W = wc.alloc (.cells M 5) := ⟨_, rfl⟩
    have k3 : Bw wc W3 := by rw [hW3]; exact Below.alloc (Bw.refl _) (Nat.le_refl _) _
    have hO3 : Hid (Own W3 z 64 (fun _ => 0)) := by
      refine (?_ : Own _ _ _ _)
      rw [hW3, ← hz.out]
      exact ⟨M, heap_alloc_new _ _, by rw [hM]; exact Nat.le_refl _, fun j hj => hM0 j hj⟩
    clear hM0
    go_upto_region 21 with fail
    rw [← hW3, hz.out]
    clear hmk hW3 hwN c3
    go_wp2
    go_loopw [17] (fun s17 wr => ∃ i : Nat, s17 = .int .i64 (i : Int) ∧ i ≤ 8 ∧ Hid (Own wr z 64 (hb1 N1 i)) ∧ Hid (Bw wc wr)) (fun s17 _ => 8 - (intOf s17).toNat)
    case atStart => exact ⟨0, rfl, by omega, hO3.out.congr (fun j _ => by unfold hb1; rw [if_neg (by omega), if_neg (by omega)]), k3⟩
    case round =>
      obtain ⟨i, rfl, hi, hO, hb⟩ := hrel
      rcases (by omega : i = 0 ∨ i = 1 ∨ i = 2 ∨ i = 3 ∨ i = 4 ∨ i = 5 ∨ i = 6 ∨ i = 7 ∨ i = 8) with h0 | h0 | h0 | h0 | h0 | h0 | h0 | h0 | h0
      · subst h0
        obtain ⟨y0, y1⟩ := hO.out.cell (c := 0) (by decide)
        obtain ⟨y2, y3⟩ := hO.out.cell (c := 56) (by decide)
        have hv : Hid (((Jl.byt N1 7 : Nat) : Int) = (N1 : Int) / 72057594037927936) := by show (((N1 / 72057594037927936 % 256 : Nat)) : Int) = _; omega
        go_wp2
        refine ⟨⟨1, rfl, by decide, ?_, Bw.put (Bw.put hb.out (Nat.le_of_eq hz.out) _ _) (Nat.le_of_eq hz.out) _ _⟩, by decide⟩
        have h1 := (hO.out.set (j := 0) (f' := fun j => if j = 0 then (N1 : Int) / 72057594037927936 else hb1 N1 0 j) (by decide) (if_pos rfl) (fun c _ hc => if_neg hc)).set (j := 56) (f' := hb1 N1 1) (x := (N1 : Int) / 72057594037927936) (by decide) (by unfold hb1; rw [if_neg (by decide), if_pos (by decide)]; exact hv.out) (fun c hc hne => by
          by_cases e : c = 0
          · subst e; rw [if_pos rfl]; unfold hb1; rw [if_pos (by decide)]; exact hv.out
          · rw [if_neg e]; unfold hb1
            by_cases e1 : c < 0
            · rw [if_pos e1, if_pos (by omega)]
            · rw [if_neg e1, if_neg (by omega)]
              by_cases e2 : 56 ≤ c ∧ c < 56 + 0
              · rw [if_pos e2, if_pos (by omega)]
              · rw [if_neg e2, if_neg (by omega)])
        exact h1
      · subst h0
        obtain ⟨y0, y1⟩ := hO.out.cell (c := 1) (by decide)
        obtain ⟨y2, y3⟩ := hO.out.cell (c := 57) (by decide)
        have hv : Hid (((Jl.byt N1 6 : Nat) : Int) = (N1 : Int) / 281474976710656 % 256) := by show (((N1 / 281474976710656 % 256 : Nat)) : Int) = _; omega
        go_wp2
        refine ⟨⟨2, rfl, by decide, ?_, Bw.put (Bw.put hb.out (Nat.le_of_eq hz.out) _ _) (Nat.le_of_eq hz.out) _ _⟩, by decide⟩
        have h1 := (hO.out.set (j := 1) (f' := fun j => if j = 1 then (N1 : Int) / 281474976710656 % 256 else hb1 N1 1 j) (by decide) (if_pos rfl) (fun c _ hc => if_neg hc)).set (j := 57) (f' := hb1 N1 2) (x := (N1 : Int) / 281474976710656 % 256) (by decide) (by unfold hb1; rw [if_neg (by decide), if_pos (by decide)]; exact hv.out) (fun c hc hne => by
          by_cases e : c = 1
          · subst e; rw [if_pos rfl]; unfold hb1; rw [if_pos (by decide)]; exact hv.out
          · rw [if_neg e]; unfold hb1
            by_cases e1 : c < 1
            · rw [if_pos e1, if_pos (by omega)]
            · rw [if_neg e1, if_neg (by omega)]
              by_cases e2 : 56 ≤ c ∧ c < 56 + 1
              · rw [if_pos e2, if_pos (by omega)]
              · rw [if_neg e2, if_neg (by omega)])
        exact h1
      · subst h0
        obtain ⟨y0, y1⟩ := hO.out.cell (c := 2) (by decide)
        obtain ⟨y2, y3⟩ := hO.out.cell (c := 58) (by decide)
        have hv : Hid (((Jl.byt N1 5 : Nat) : Int) = (N1 : Int) / 1099511627776 % 256) := by show (((N1 / 1099511627776 % 256 : Nat)) : Int) = _; omega
        go_wp2
        refine ⟨⟨3, rfl, by decide, ?_, Bw.put (Bw.put hb.out (Nat.le_of_eq hz.out) _ _) (Nat.le_of_eq hz.out) _ _⟩, by decide⟩
        have h1 := (hO.out.set (j := 2) (f' := fun j => if j = 2 then (N1 : Int) / 1099511627776 % 256 else hb1 N1 2 j) (by decide) (if_pos rfl) (fun c _ hc => if_neg hc)).set (j := 58) (f' := hb1 N1 3) (x := (N1 : Int) / 1099511627776 % 256) (by decide) (by unfold hb1; rw [if_neg (by decide), if_pos (by decide)]; exact hv.out) (fun c hc hne => by
          by_cases e : c = 2
          · subst e; rw [if_pos rfl]; unfold hb1; rw [if_pos (by decide)]; exact hv.out
          · rw [if_neg e]; unfold hb1
            by_cases e1 : c < 2
            · rw [if_pos e1, if_pos (by omega)]
            · rw [if_neg e1, if_neg (by omega)]
              by_cases e2 : 56 ≤ c ∧ c < 56 + 2
              · rw [if_pos e2, if_pos (by omega)]
              · rw [if_neg e2, if_neg (by omega)])
        exact h1
      · subst h0
        obtain ⟨y0, y1⟩ := hO.out.cell (c := 3) (by decide)
        obtain ⟨y2, y3⟩ := hO.out.cell (c := 59) (by decide)
        have hv : Hid (((Jl.byt N1 4 : Nat) : Int) = (N1 : Int) / 4294967296 % 256) := by show (((N1 / 4294967296 % 256 : Nat)) : Int) = _; omega
        go_wp2
        refine ⟨⟨4, rfl, by decide, ?_, Bw.put (Bw.put hb.out (Nat.le_of_eq hz.out) _ _) (Nat.le_of_eq hz.out) _ _⟩, by decide⟩
        have h1 := (hO.out.set (j := 3) (f' := fun j => if j = 3 then (N1 : Int) / 4294967296 % 256 else hb1 N1 3 j) (by decide) (if_pos rfl) (fun c _ hc => if_neg hc)).set (j := 59) (f' := hb1 N1 4) (x := (N1 : Int) / 4294967296 % 256) (by decide) (by unfold hb1; rw [if_neg (by decide), if_pos (by decide)]; exact hv.out) (fun c hc hne => by
          by_cases e : c = 3
          · subst e; rw [if_pos rfl]; unfold hb1; rw [if_pos (by decide)]; exact hv.out
          · rw [if_neg e]; unfold hb1
            by_cases e1 : c < 3
            · rw [if_pos e1, if_pos (by omega)]
            · rw [if_neg e1, if_neg (by omega)]
              by_cases e2 : 56 ≤ c ∧ c < 56 + 3
              · rw [if_pos e2, if_pos (by omega)]
              · rw [if_neg e2, if_neg (by omega)])
        exact h1
      · subst h0
        obtain ⟨y0, y1⟩ := hO.out.cell (c := 4) (by decide)
        obtain ⟨y2, y3⟩ := hO.out.cell (c := 60) (by decide)
        have hv : Hid (((Jl.byt N1 3 : Nat) : Int) = (N1 : Int) / 16777216 % 256) := by show (((N1 / 16777216 % 256 : Nat)) : Int) = _; omega
        go_wp2
        refine ⟨⟨5, rfl, by decide, ?_, Bw.put (Bw.put hb.out (Nat.le_of_eq hz.out) _ _) (Nat.le_of_eq hz.out) _ _⟩, by decide⟩
        have h1 := (hO.out.set (j := 4) (f' := fun j => if j = 4 then (N1 : Int) / 16777216 % 256 else hb1 N1 4 j) (by decide) (if_pos rfl) (fun c _ hc => if_neg hc)).set (j := 60) (f' := hb1 N1 5) (x := (N1 : Int) / 16777216 % 256) (by decide) (by unfold hb1; rw [if_neg (by decide), if_pos (by decide)]; exact hv.out) (fun c hc hne => by
          by_cases e : c = 4
          · subst e; rw [if_pos rfl]; unfold hb1; rw [if_pos (by decide)]; exact hv.out
          · rw [if_neg e]; unfold hb1
            by_cases e1 : c < 4
            · rw [if_pos e1, if_pos (by omega)]
            · rw [if_neg e1, if_neg (by omega)]
              by_cases e2 : 56 ≤ c ∧ c < 56 + 4
              · rw [if_pos e2, if_pos (by omega)]
              · rw [if_neg e2, if_neg (by omega)])
        exact h1
      · subst h0
        obtain ⟨y0, y1⟩ := hO.out.cell (c := 5) (by decide)
        obtain ⟨y2, y3⟩ := hO.out.cell (c := 61) (by decide)
        have hv : Hid (((Jl.byt N1 2 : Nat) : Int) = (N1 : Int) / 65536 % 256) := by show (((N1 / 65536 % 256 : Nat)) : Int) = _; omega
        go_wp2
        refine ⟨⟨6, rfl, by decide, ?_, Bw.put (Bw.put hb.out (Nat.le_of_eq hz.out) _ _) (Nat.le_of_eq hz.out) _ _⟩, by decide⟩
        have h1 := (hO.out.set (j := 5) (f' := fun j => if j = 5 then (N1 : Int) / 65536 % 256 else hb1 N1 5 j) (by decide) (if_pos rfl) (fun c _ hc => if_neg hc)).set (j := 61) (f' := hb1 N1 6) (x := (N1 : Int) / 65536 % 256) (by decide) (by unfold hb1; rw [if_neg (by decide), if_pos (by decide)]; exact hv.out) (fun c hc hne => by
          by_cases e : c = 5
          · subst e; rw [if_pos rfl]; unfold hb1; rw [if_pos (by decide)]; exact hv.out
          · rw [if_neg e]; unfold hb1
            by_cases e1 : c < 5
            · rw [if_pos e1, if_pos (by omega)]
            · rw [if_neg e1, if_neg (by omega)]
              by_cases e2 : 56 ≤ c ∧ c < 56 + 5
              · rw [if_pos e2, if_pos (by omega)]
              · rw [if_neg e2, if_neg (by omega)])
        exact h1
      · subst h0
        obtain ⟨y0, y1⟩ := hO.out.cell (c := 6) (by decide)
        obtain ⟨y2, y3⟩ := hO.out.cell (c := 62) (by decide)
        have hv : Hid (((Jl.byt N1 1 : Nat) : Int) = (N1 : Int) / 256 % 256) := by show (((N1 / 256 % 256 : Nat)) : Int) = _; omega
        go_wp2
        refine ⟨⟨7, rfl, by decide, ?_, Bw.put (Bw.put hb.out (Nat.le_of_eq hz.out) _ _) (Nat.le_of_eq hz.out) _ _⟩, by decide⟩
        have h1 := (hO.out.set (j := 6) (f' := fun j => if j = 6 then (N1 : Int) / 256 % 256 else hb1 N1 6 j) (by decide) (if_pos rfl) (fun c _ hc => if_neg hc)).set (j := 62) (f' := hb1 N1 7) (x := (N1 : Int) / 256 % 256) (by decide) (by unfold hb1; rw [if_neg (by decide), if_pos (by decide)]; exact hv.out) (fun c hc hne => by
          by_cases e : c = 6
          · subst e; rw [if_pos rfl]; unfold hb1; rw [if_pos (by decide)]; exact hv.out
          · rw [if_neg e]; unfold hb1
            by_cases e1 : c < 6
            · rw [if_pos e1, if_pos (by omega)]
            · rw [if_neg e1, if_neg (by omega)]
              by_cases e2 : 56 ≤ c ∧ c < 56 + 6
              · rw [if_pos e2, if_pos (by omega)]
              · rw [if_neg e2, if_neg (by omega)])
        exact h1
      · subst h0
        obtain ⟨y0, y1⟩ := hO.out.cell (c := 7) (by decide)
        obtain ⟨y2, y3⟩ := hO.out.cell (c := 63) (by decide)
        have hv : Hid (((Jl.byt N1 0 : Nat) : Int) = (N1 : Int) % 256) := by show (((N1 / 1 % 256 : Nat)) : Int) = _; omega
        go_wp2
        refine ⟨⟨8, rfl, by decide, ?_, Bw.put (Bw.put hb.out (Nat.le_of_eq hz.out) _ _) (Nat.le_of_eq hz.out) _ _⟩, by decide⟩
        have h1 := (hO.out.set (j := 7) (f' := fun j => if j = 7 then (N1 : Int) % 256 else hb1 N1 7 j) (by decide) (if_pos rfl) (fun c _ hc => if_neg hc)).set (j := 63) (f' := hb1 N1 8) (x := (N1 : Int) % 256) (by decide) (by unfold hb1; rw [if_neg (by decide), if_pos (by decide)]; exact hv.out) (fun c hc hne => by
          by_cases e : c = 7
          · subst e; rw [if_pos rfl]; unfold hb1; rw [if_pos (by decide)]; exact hv.out
          · rw [if_neg e]; unfold hb1
            by_cases e1 : c < 7
            · rw [if_pos e1, if_pos (by omega)]
            · rw [if_neg e1, if_neg (by omega)]
              by_cases e2 : 56 ≤ c ∧ c < 56 + 7
              · rw [if_pos e2, if_pos (by omega)]
              · rw [if_neg e2, if_neg (by omega)])
        exact h1
      · subst h0
        obtain ⟨nx, hnx⟩ : ∃ nx, Hid (Jl.next J area at_ B = nx) := ⟨_, rfl⟩
        have hnxn : Hid (nx.n = N1 ∧ nx.area = area ∧ nx.len = at_ + n) := by
          rw [← hnx.out]
          unfold Jl.next
          exact ⟨by show (J.h.n + 1) % 18446744073709551616 = N1; rw [hN.out, hN1.out], rfl, by show at_ + B.length = at_ + n; rw [hBn.out]⟩
        obtain ⟨y0, y1⟩ := hO.out.cell (c := 8) (by decide)
        have ha0 : IntKind.u8.wrap (area : Int) = (area : Int) := by rw [IntKind.wrap_u8]; omega
        have ha1 : (area : Int) % 256 = (area : Int) := by omega
        have hset : Hid (∀ x : Int, x = (area : Int) → Own (wr.setCell ⟨z, 8, none⟩ (.int .u8 x)) z 64 (hb2 nx 0)) := fun x e => hO.out.set (by decide) (by
          rw [e]
          unfold hb2 Jl.hb
          rw [if_neg (by decide), if_neg (by decide), if_pos rfl, hnxn.out.2.1, Nat.mod_eq_of_lt (by omega)]) (fun c hc hne => by rw [hb2_zero nx c hne hc, hnxn.out.1])
        have hbset : Hid (∀ x : Value, Bw wc (wr.setCell ⟨z, 8, none⟩ x)) := fun x => Bw.put hb.out (Nat.le_of_eq hz.out) _ _
        clear hO hb
        go_upto_region 27 with fail
        obtain ⟨W6, hW6⟩ : ∃ W, W = wr.setCell ⟨z, 8, none⟩ (.int .u8 (area : Int)) := ⟨_, rfl⟩
        have hO6 : Hid (Own W6 z 64 (hb2 nx 0)) := by refine (?_ : Own _ _ _ _); rw [hW6]; exact hset.out _ rfl
        have hb6 : Hid (Bw wc W6) := by refine (?_ : Bw _ _); rw [hW6]; exact hbset.out _
        rw [← hW6]
        clear hW6 hset hbset ha0 ha1 y0 y1
        have hlb : at_ + n ≤ 4000000 := by omega
        go_wp2
        go_loopw [18] (fun s18 wr => ∃ i : Nat, s18 = .int .i64 (i : Int) ∧ i ≤ 4 ∧ Hid (Own wr z 64 (hb2 nx i)) ∧ Hid (Bw wc wr)) (fun s18 _ => 4 - (intOf s18).toNat)
        case atStart => exact ⟨0, rfl, by omega, hO6, hb6⟩
        case round =>
          obtain ⟨i, rfl, hi, hO, hb⟩ := hrel
          clear hO6 hb6
          rcases (by omega : i = 0 ∨ i = 1 ∨ i = 2 ∨ i = 3 ∨ i = 4) with h0 | h0 | h0 | h0 | h0
          · subst h0
            obtain ⟨y0, y1⟩ := hO.out.cell (c := 9) (by decide)
            have hset : Hid (∀ x : Int, x = ((Jl.byt (at_ + n) 3 : Nat) : Int) → Own (wr.setCell ⟨z, 9, none⟩ (.int .u8 x)) z 64 (hb2 nx 1)) := fun x e => hO.out.set (by decide) (by
              rw [e]
              unfold hb2 Jl.hb
              rw [if_neg (by decide), if_neg (by decide), if_neg (by decide), if_pos (by decide), hnxn.out.2.2]) (fun c hc hne => by
              unfold hb2
              by_cases e1 : 10 ≤ c ∧ c < 13
              · rw [if_pos (by omega), if_pos (by omega)]
              · rw [if_neg (by omega), if_neg (by omega)])
            have hv : Hid ((at_ + n) / 16777216 % 256 = Jl.byt (at_ + n) 3) := rfl
            go_wp2
            refine ⟨⟨1, rfl, by decide, hset.out _ ?_, Bw.put hb.out (Nat.le_of_eq hz.out) _ _⟩, by decide⟩
            rw [← hv.out]
            omega
          · subst h0
            obtain ⟨y0, y1⟩ := hO.out.cell (c := 10) (by decide)
            have hset : Hid (∀ x : Int, x = ((Jl.byt (at_ + n) 2 : Nat) : Int) → Own (wr.setCell ⟨z, 10, none⟩ (.int .u8 x)) z 64 (hb2 nx 2)) := fun x e => hO.out.set (by decide) (by
              rw [e]
              unfold hb2 Jl.hb
              rw [if_neg (by decide), if_neg (by decide), if_neg (by decide), if_pos (by decide), hnxn.out.2.2]) (fun c hc hne => by
              unfold hb2
              by_cases e1 : 11 ≤ c ∧ c < 13
              · rw [if_pos (by omega), if_pos (by omega)]
              · rw [if_neg (by omega), if_neg (by omega)])
            have hv : Hid ((at_ + n) / 65536 % 256 = Jl.byt (at_ + n) 2) := rfl
            go_wp2
            refine ⟨⟨2, rfl, by decide, hset.out _ ?_, Bw.put hb.out (Nat.le_of_eq hz.out) _ _⟩, by decide⟩
            rw [← hv.out]
            omega
          · subst h0
            obtain ⟨y0, y1⟩ := hO.out.cell (c := 11) (by decide)
            have hset : Hid (∀ x : Int, x = ((Jl.byt (at_ + n) 1 : Nat) : Int) → Own (wr.setCell ⟨z, 11, none⟩ (.int .u8 x)) z 64 (hb2 nx 3)) := fun x e => hO.out.set (by decide) (by
              rw [e]
              unfold hb2 Jl.hb
              rw [if_neg (by decide), if_neg (by decide), if_neg (by decide), if_pos (by decide), hnxn.out.2.2]) (fun c hc hne => by
              unfold hb2
              by_cases e1 : 12 ≤ c ∧ c < 13
              · rw [if_pos (by omega), if_pos (by omega)]
              · rw [if_neg (by omega), if_neg (by omega)])
            have hv : Hid ((at_ + n) / 256 % 256 = Jl.byt (at_ + n) 1) := rfl
            go_wp2
            refine ⟨⟨3, rfl, by decide, hset.out _ ?_, Bw.put hb.out (Nat.le_of_eq hz.out) _ _⟩, by decide⟩
            rw [← hv.out]
            omega
          · subst h0
            obtain ⟨y0, y1⟩ := hO.out.cell (c := 12) (by decide)
            have hset : Hid (∀ x : Int, x = ((Jl.byt (at_ + n) 0 : Nat) : Int) → Own (wr.setCell ⟨z, 12, none⟩ (.int .u8 x)) z 64 (hb2 nx 4)) := fun x e => hO.out.set (by decide) (by
              rw [e]
              unfold hb2 Jl.hb
              rw [if_neg (by decide), if_neg (by decide), if_neg (by decide), if_pos (by decide), hnxn.out.2.2]) (fun c hc hne => by
              unfold hb2
              by_cases e1 : 13 ≤ c ∧ c < 13
              · rw [if_pos (by omega), if_pos (by omega)]
              · rw [if_neg (by omega), if_neg (by omega)])
            have hv : Hid ((at_ + n) / 1 % 256 = Jl.byt (at_ + n) 0) := rfl
            go_wp2
            refine ⟨⟨4, rfl, by decide, hset.out _ ?_, Bw.put hb.out (Nat.le_of_eq hz.out) _ _⟩, by decide⟩
            rw [← hv.out]
            omega
          · subst h0
            have hOr : Hid (Own wr z 64 (Jl.hb nx)) := hO.out.congr (fun j _ => by unfold hb2; rw [if_neg (by omega)])
            clear hO
            have hSr : Hid (WrAt w base gj g cb cap R v J A B S1 wr) := hSc.out.keep hb.out
            have hrow : Hid (RowAt wr (some ⟨z, 0, none⟩) 64 (Jl.hb nx)) := hOr.out.row (Jl.hb_bd nx)
            obtain ⟨pp, hpp⟩ : ∃ q, Hid (N1 % 2 = q) := ⟨_, rfl⟩
            obtain ⟨x1, hx1⟩ : ∃ q, Hid (r0 + pp = q) := ⟨_, rfl⟩
            have v1 : (N1 : Int) % 2 = (pp : Int) := by have := hpp.out; omega
            have v2 : IntKind.i64.wrap (pp : Int) = (pp : Int) := by rw [IntKind.wrap_i64]; have := hpp.out; omega
            have v3 : IntKind.i64.wrap ((r0 : Int) + (pp : Int)) = (x1 : Int) := by rw [IntKind.wrap_i64]; have := hpp.out; have := hx1.out; omega
            have hS1n : Hid (S1.n = S.n) := by have h1 := Jl.putB_n S J.r0 J.rc area at_ B; rw [hp.out] at h1; exact h1
            have hx1in : Hid (x1 + 1 ≤ S1.n) := by
              have h1 := hS1n.out; have h2 := hpp.out; have h3 := hx1.out; have h4 := hr0.out; have h5 := hrc.out; have h6 := h2hf.out
              exact (by omega : x1 + 1 ≤ S1.n)
            obtain ⟨Wt, hWt⟩ : ∃ Wt, Hid (S1.wrote (x1 : Int) 64 (Jl.hb nx) = Wt) := ⟨_, rfl⟩
            have hlast : Hid (Jl.last S1 (J.r0 + (Jl.next J area at_ B).n % 2) 1 (Jl.hb (Jl.next J area at_ B)) = if Wt.1 = 0 then Wt.2.syncs else Wt) := by
              show _ = _
              rw [hnx.out, hnxn.out.1, hpp.out, hr0.out, hx1.out, last_wrote (Jl.hb nx) hx1in.out, ← hWt.out]
            have HW2 : Hid (∀ u, Bw wr u → Calls Try.prog 18 #[.pointer (some ⟨g, 0, none⟩), .int .i64 (x1 : Int), .slice (some ⟨z, 0, none⟩) 64 64] u fun e w' => e = .returned (.int .i64 Wt.1) ∧ Hid (WrAt w base gj g cb cap R v J A B Wt.2 w')) := fun u ku => by
              have hSu := hSr.out.keep ku
              obtain ⟨LV2, WV2, h2⟩ := hSu.d
              rw [← hWt.out]
              obtain ⟨LV4, WV4, h4⟩ := hSc.out.d
              refine (rwrite_any h2 (x1 : Int) (by have := hx1.out; have := hpp.out; omega) (some ⟨z, 0, none⟩) 64 64 (Jl.hb nx) (by omega) (hrow.out.keep ku) (fun b o e h0 hb => by cases e; have h5 := h4.low _ hb; have := hz.out; omega) (Nat.le_refl _)).mono ?_
              rintro e w' ⟨h3, ⟨WV3, h4⟩, h5⟩
              exact ⟨h3, HTurn.out S1 _ _ _ hSu ⟨_, _, h4⟩ h5⟩
            have HSy : Hid (∀ u, WrAt w base gj g cb cap R v J A B Wt.2 u → Calls Try.prog 77 #[.pointer (some ⟨g, 0, none⟩)] u fun e w' => e = .returned (.int .i64 Wt.2.syncs.1) ∧ Hid (WrAt w base gj g cb cap R v J A B Wt.2.syncs.2 w')) := fun u hu => by
              obtain ⟨LV2, WV2, h2⟩ := hu.d
              refine (rsync_any h2).mono ?_
              rintro e w' ⟨h3, h4, h5⟩
              exact ⟨h3, HTurn.out _ _ _ _ hu h4 h5⟩
            have HBad2 : Hid (∀ S2 E u, E ≠ 0 → (if Wt.1 = 0 then Wt.2.syncs else Wt) = (E, S2) → WrAt w base gj g cb cap R v J A B S2 u → RPutV base gj g cb cap R v (Jl.put J S B area at_) w (.returned (.int .i64 E)) u) := fun S2 E u hE he hw => by
              rw [Jl.put_bad2 hp.out (hlast.out.trans he) hE]
              exact ⟨rfl, hw.d, hw.j, hw.bx⟩
            have HGood : Hid (∀ S2 u, (if Wt.1 = 0 then Wt.2.syncs else Wt) = (0, S2) → WrAt w base gj g cb cap R v J A B S2 u → RPutV base gj g cb cap R v (Jl.put J S B area at_) w (.returned (.int .i64 0)) ((((u.setCell ⟨gj, 7, none⟩ (.bool false)).setCell ⟨gj, 3, none⟩ (.int .u64 (N1 : Int))).setCell ⟨gj, 4, none⟩ (.int .i64 (area : Int))).setCell ⟨gj, 5, none⟩ (.int .i64 ((at_ : Int) + (n : Int))))) := fun S2 u he hw => by
              rw [Jl.put_good hp.out (hlast.out.trans he)]
              have hX : Bx (· = gj) u ((((u.setCell ⟨gj, 7, none⟩ (.bool false)).setCell ⟨gj, 3, none⟩ (.int .u64 (N1 : Int))).setCell ⟨gj, 4, none⟩ (.int .i64 (area : Int))).setCell ⟨gj, 5, none⟩ (.int .i64 ((at_ : Int) + (n : Int)))) := ((((Bx.refl (· = gj) u).put rfl).put rfl).put rfl).put rfl
              obtain ⟨LV2, WV2, h2⟩ := hw.d
              refine ⟨rfl, ⟨LV2, WV2, h2.keepj hw.j (fun b e => .inl e) hX⟩, hw.j.setJ hX ?_ rfl ⟨hok.rc4, hok.rc, hok.r0, ?_, hok.few⟩, hw.bx.trans (hX.more (fun b e => .inr e))⟩
              · have h3 := heap_setCell_same _ gj 5 _ _ (.int .i64 ((at_ : Int) + (n : Int))) (heap_setCell_same _ gj 4 _ _ (.int .i64 (area : Int)) (heap_setCell_same _ gj 3 _ _ (.int .u64 (N1 : Int)) (heap_setCell_same u gj 7 _ _ (.bool false) hw.j.cells)))
                rw [h3, hnx.out]
                unfold jcells
                dsimp only
                rw [hnxn.out.1, hnxn.out.2.1, hnxn.out.2.2, hdead, Int.natCast_add]
                rfl
              · show Jl.Fit (Jl.next J area at_ B) (Jl.room J.rc)
                rw [hnx.out]
                refine ⟨?_, ?_, ?_⟩
                · rw [hnxn.out.1]; exact hN1b
                · rw [hnxn.out.2.1]; exact ha
                · rw [hnxn.out.2.2, hrm.out]; exact hat
            have HC3 : Hid (∀ S' u, WrAt w base gj g cb cap R v J A B S' u → u.cell? ⟨gj, 0, none⟩ = some (.pointer (some ⟨g, 0, none⟩)) ∧ u.cell? ⟨gj, 1, none⟩ = some (.int .i64 (r0 : Int))) := fun S' u hu => by
              have h1 := hu.j.c1
              dsimp only at h1
              rw [hr0.out] at h1
              exact ⟨hu.j.c0, h1⟩
            obtain ⟨q0, q1⟩ := HC3.out _ _ hSr.out
            clear hp hlast hrow hOr
            clear v1 v2 v3
            by_cases hw0 : Wt.1 = 0
            · rw [if_pos hw0] at HGood HBad2
              rw [hw0] at HW2
              obtain ⟨Sy, hSy⟩ : ∃ Sy, Hid (Wt.2.syncs = Sy) := ⟨_, rfl⟩
              rw [hSy.out] at HGood HBad2 HSy
              by_cases hs0 : Sy.1 = 0
              · have hG : Hid (∀ u, WrAt w base gj g cb cap R v J A B Sy.2 u → RPutV base gj g cb cap R v (Jl.put J S B area at_) w (.returned (.int .i64 0)) ((((u.setCell ⟨gj, 7, none⟩ (.bool false)).setCell ⟨gj, 3, none⟩ (.int .u64 (N1 : Int))).setCell ⟨gj, 4, none⟩ (.int .i64 (area : Int))).setCell ⟨gj, 5, none⟩ (.int .i64 ((at_ : Int) + (n : Int))))) := fun u hu => HGood.out Sy.2 u (by rw [← hs0]) hu
                have HCe : Hid (∀ u, WrAt w base gj g cb cap R v J A B Sy.2 u → (u.cell? ⟨gj, 7, none⟩ = some (.bool true) ∧ u.cell? ⟨gj, 3, none⟩ = some (.int .u64 (N : Int)) ∧ u.cell? ⟨gj, 4, none⟩ = some (.int .i64 (J.h.area : Int)) ∧ u.cell? ⟨gj, 5, none⟩ = some (.int .i64 (J.h.len : Int))) ∧ u.frozen? ⟨gj, 7, none⟩ = false ∧ u.frozen? ⟨gj, 3, none⟩ = false ∧ u.frozen? ⟨gj, 4, none⟩ = false ∧ u.frozen? ⟨gj, 5, none⟩ = false) := fun u hu => by
                  have h3 := hu.j.c3
                  dsimp only at h3
                  rw [hN.out] at h3
                  exact ⟨⟨hu.j.c7, h3, hu.j.c4, hu.j.c5⟩, hu.j.fz 7, hu.j.fz 3, hu.j.fz 4, hu.j.fz 5⟩
                rw [hs0] at HSy
                clear hs0 hw0 HGood HBad2
                go_upto_region 31 with fail
                refine wp_region_held_drew (S := fun w' => w'.cell? ⟨gj, 0, none⟩ = some (.pointer (some ⟨g, 0, none⟩)) ∧ w'.cell? ⟨gj, 1, none⟩ = some (.int .i64 (r0 : Int))) (by kernel_rfl) (⟨((Bw.refl wr).drew.cell (p := ⟨gj, 0, none⟩) (block_lt_of_cell q0)).trans q0, ((Bw.refl wr).drew.cell (p := ⟨gj, 1, none⟩) (block_lt_of_cell q1)).trans q1⟩) (fun hHeld => ?_)
                refine wpAnyH_take (i := 0) (v := ?_) rfl (by kernel_rfl) (by kernel_rfl) (by kernel_rfl) (fun _ _ _ h => h) (Or.inl ⟨by rfl, ?_⟩) (by assumption) ?_
                rotate_left
                · intro w hSw; (try dsimp only at hSw); obtain ⟨s0, s1⟩ := hSw; go_simp; all_goals (with_reducible rfl)
                try simp only [Act.put, List.setIfInBounds_toArray, List.set_cons_zero, List.set_cons_succ, List.getElem_toArray, List.getElem_cons_succ, List.getElem_cons_zero]
                refine wpAnyH_take (i := 1) (v := ?_) rfl (by kernel_rfl) (by kernel_rfl) (by kernel_rfl) (fun _ _ _ h => h) (Or.inl ⟨by rfl, ?_⟩) (by assumption) ?_
                rotate_left
                · intro w hSw; (try dsimp only at hSw); obtain ⟨s0, s1⟩ := hSw; go_simp; all_goals (with_reducible rfl)
                try simp only [Act.put, List.setIfInBounds_toArray, List.set_cons_zero, List.set_cons_succ, List.getElem_toArray, List.getElem_cons_succ, List.getElem_cons_zero]
                refine wpAnyH_take (i := 2) (v := ?_) rfl (by kernel_rfl) (by kernel_rfl) (by kernel_rfl) (fun _ _ _ h => h) (Or.inl ⟨by rfl, ?_⟩) (by assumption) ?_
                rotate_left
                · intro w hSw; (try dsimp only at hSw); obtain ⟨s0, s1⟩ := hSw; go_simp; all_goals (with_reducible rfl)
                try simp only [Act.put, List.setIfInBounds_toArray, List.set_cons_zero, List.set_cons_succ, List.getElem_toArray, List.getElem_cons_succ, List.getElem_cons_zero]
                refine wpAnyH_take (i := 3) (v := ?_) rfl (by kernel_rfl) (by kernel_rfl) (by kernel_rfl) (fun _ _ _ h => h) (Or.inl ⟨by rfl, ?_⟩) (by assumption) ?_
                rotate_left
                · intro w hSw; (try dsimp only at hSw); obtain ⟨s0, s1⟩ := hSw; go_simp; all_goals (with_reducible rfl)
                try simp only [Act.put, List.setIfInBounds_toArray, List.set_cons_zero, List.set_cons_succ, List.getElem_toArray, List.getElem_cons_succ, List.getElem_cons_zero]
                refine wpAnyH_take (i := 4) (v := ?_) rfl (by kernel_rfl) (by kernel_rfl) (by kernel_rfl) (fun _ _ _ h => h) (Or.inl ⟨by rfl, ?_⟩) (by assumption) ?_
                rotate_left
                · intro w hSw; (try dsimp only at hSw); obtain ⟨s0, s1⟩ := hSw; go_simp; all_goals (with_reducible rfl)
                try simp only [Act.put, List.setIfInBounds_toArray, List.set_cons_zero, List.set_cons_succ, List.getElem_toArray, List.getElem_cons_succ, List.getElem_cons_zero]
                refine wpAnyH_take (i := 5) (v := ?_) rfl (by kernel_rfl) (by kernel_rfl) (by kernel_rfl) (fun _ _ _ h => h) (Or.inl ⟨by rfl, ?_⟩) (by assumption) ?_
                rotate_left
                · intro w hSw; (try dsimp only at hSw); obtain ⟨s0, s1⟩ := hSw; go_simp; all_goals (with_reducible rfl)
                try simp only [Act.put, List.setIfInBounds_toArray, List.set_cons_zero, List.set_cons_succ, List.getElem_toArray, List.getElem_cons_succ, List.getElem_cons_zero]
                refine wpAnyH_take (i := 6) (v := ?_) rfl (by kernel_rfl) (by kernel_rfl) (by kernel_rfl) (fun _ _ _ h => h) (Or.inl ⟨by rfl, ?_⟩) (by assumption) ?_
                rotate_left
                · intro w hSw; (try dsimp only at hSw); obtain ⟨s0, s1⟩ := hSw; go_simp; all_goals (with_reducible rfl)
                try simp only [Act.put, List.setIfInBounds_toArray, List.set_cons_zero, List.set_cons_succ, List.getElem_toArray, List.getElem_cons_succ, List.getElem_cons_zero]
                refine wpAnyH_take (i := 7) (v := ?_) rfl (by kernel_rfl) (by kernel_rfl) (by kernel_rfl) (fun _ _ _ h => h) (Or.inl ⟨by rfl, ?_⟩) (by assumption) ?_
                rotate_left
                · intro w hSw; (try dsimp only at hSw); obtain ⟨s0, s1⟩ := hSw; go_simp; all_goals (with_reducible rfl)
                try simp only [Act.put, List.setIfInBounds_toArray, List.set_cons_zero, List.set_cons_succ, List.getElem_toArray, List.getElem_cons_succ, List.getElem_cons_zero]
                refine wpAnyH_take (i := 8) (v := ?_) rfl (by kernel_rfl) (by kernel_rfl) (by kernel_rfl) (fun _ _ _ h => h) (Or.inl ⟨by rfl, ?_⟩) (by assumption) ?_
                rotate_left
                · intro w hSw; (try dsimp only at hSw); obtain ⟨s0, s1⟩ := hSw; go_simp; all_goals (with_reducible rfl)
                try simp only [Act.put, List.setIfInBounds_toArray, List.set_cons_zero, List.set_cons_succ, List.getElem_toArray, List.getElem_cons_succ, List.getElem_cons_zero]
                refine wpAnyH_take (i := 9) (v := ?_) rfl (by kernel_rfl) (by kernel_rfl) (by kernel_rfl) (fun _ _ _ h => h) (Or.inl ⟨by rfl, ?_⟩) (by assumption) ?_
                rotate_left
                · intro w hSw; (try dsimp only at hSw); obtain ⟨s0, s1⟩ := hSw; go_simp; all_goals (with_reducible rfl)
                try simp only [Act.put, List.setIfInBounds_toArray, List.set_cons_zero, List.set_cons_succ, List.getElem_toArray, List.getElem_cons_succ, List.getElem_cons_zero]
                refine wpAnyH_take (i := 10) (v := ?_) rfl (by kernel_rfl) (by kernel_rfl) (by kernel_rfl) (fun _ _ _ h => h) (Or.inl ⟨by rfl, ?_⟩) (by assumption) ?_
                rotate_left
                · intro w hSw; (try dsimp only at hSw); obtain ⟨s0, s1⟩ := hSw; go_simp; all_goals (with_reducible rfl)
                try simp only [Act.put, List.setIfInBounds_toArray, List.set_cons_zero, List.set_cons_succ, List.getElem_toArray, List.getElem_cons_succ, List.getElem_cons_zero]
                refine wpAnyH_take (i := 11) (v := ?_) rfl (by kernel_rfl) (by kernel_rfl) (by kernel_rfl) (fun _ _ _ h => h) (Or.inl ⟨by rfl, ?_⟩) (by assumption) ?_
                rotate_left
                · intro w hSw; (try dsimp only at hSw); obtain ⟨s0, s1⟩ := hSw; go_simp; all_goals (with_reducible rfl)
                try simp only [Act.put, List.setIfInBounds_toArray, List.set_cons_zero, List.set_cons_succ, List.getElem_toArray, List.getElem_cons_succ, List.getElem_cons_zero]
                refine wpAnyH_take (i := 12) (v := ?_) rfl (by kernel_rfl) (by kernel_rfl) (by kernel_rfl) (fun _ _ _ h => h) (Or.inl ⟨by rfl, ?_⟩) (by assumption) ?_
                rotate_left
                · intro w hSw; (try dsimp only at hSw); obtain ⟨s0, s1⟩ := hSw; go_simp; all_goals (with_reducible rfl)
                try simp only [Act.put, List.setIfInBounds_toArray, List.set_cons_zero, List.set_cons_succ, List.getElem_toArray, List.getElem_cons_succ, List.getElem_cons_zero]
                refine wpAnyH_take (i := 13) (v := ?_) rfl (by kernel_rfl) (by kernel_rfl) (by kernel_rfl) (fun _ _ _ h => h) (Or.inl ⟨by rfl, ?_⟩) (by assumption) ?_
                rotate_left
                · intro w hSw; (try dsimp only at hSw); obtain ⟨s0, s1⟩ := hSw; go_simp; all_goals (with_reducible rfl)
                try simp only [Act.put, List.setIfInBounds_toArray, List.set_cons_zero, List.set_cons_succ, List.getElem_toArray, List.getElem_cons_succ, List.getElem_cons_zero]
                refine wpAnyH_ready (rs := [14]) (by kernel_rfl) (by simp) ?_
                refine AllReadyH.cons rfl (fun K hK => ?_) AllReadyH.nil
                go_simp
                rw [wrap_two r0 N1 x1 r0b (by rw [hpp.out]; exact hx1.out)]
                refine (HW2.out _ ((Bw.refl wr).drew)).mono ?_
                rintro e w8 ⟨rfl, hS8⟩
                obtain ⟨q2, q3⟩ := HC3.out _ _ hS8.out
                refine hK.out _ _ (⟨q2, q3⟩) (fun hHeld => ?_)
                clear hK K
                try simp only [Act.put, List.setIfInBounds_toArray, List.set_cons_zero, List.set_cons_succ, List.getElem_toArray, List.getElem_cons_succ, List.getElem_cons_zero]
                refine wpAnyH_take (i := 15) (v := ?_) rfl (by kernel_rfl) (by kernel_rfl) (by kernel_rfl) (fun _ _ _ h => h) (Or.inl ⟨by rfl, ?_⟩) (by assumption) ?_
                rotate_left
                · intro w hSw; (try dsimp only at hSw); go_simp; all_goals (with_reducible rfl)
                try simp only [Act.put, List.setIfInBounds_toArray, List.set_cons_zero, List.set_cons_succ, List.getElem_toArray, List.getElem_cons_succ, List.getElem_cons_zero]
                refine wpAnyH_done (by kernel_rfl) ?_ _
                go_wp2_with (go_at_call 77; refine (HSy.out _ hS8.out).mono ?_; rintro e w9 ⟨rfl, hS9⟩; obtain ⟨⟨s7, s3, s4, s5⟩, t7, t3, t4, t5⟩ := HCe.out w9 hS9.out)
                go_ret
                exact hG.out _ hS9.out
              · have hE1 : (Sy.1 != 0) = true := by rw [bne_iff_ne]; exact hs0
                have hPx : Hid (∀ u, WrAt w base gj g cb cap R v J A B Sy.2 u → RPutV base gj g cb cap R v (Jl.put J S B area at_) w (.returned (.int .i64 Sy.1)) u) := fun u hu => HBad2.out Sy.2 Sy.1 u hs0 rfl hu
                clear hs0 hw0 HGood HBad2
                go_upto_region 31 with fail
                refine wp_region_held_drew (S := fun w' => w'.cell? ⟨gj, 0, none⟩ = some (.pointer (some ⟨g, 0, none⟩)) ∧ w'.cell? ⟨gj, 1, none⟩ = some (.int .i64 (r0 : Int))) (by kernel_rfl) (⟨((Bw.refl wr).drew.cell (p := ⟨gj, 0, none⟩) (block_lt_of_cell q0)).trans q0, ((Bw.refl wr).drew.cell (p := ⟨gj, 1, none⟩) (block_lt_of_cell q1)).trans q1⟩) (fun hHeld => ?_)
                refine wpAnyH_take (i := 0) (v := ?_) rfl (by kernel_rfl) (by kernel_rfl) (by kernel_rfl) (fun _ _ _ h => h) (Or.inl ⟨by rfl, ?_⟩) (by assumption) ?_
                rotate_left
                · intro w hSw; (try dsimp only at hSw); obtain ⟨s0, s1⟩ := hSw; go_simp; all_goals (with_reducible rfl)
                try simp only [Act.put, List.setIfInBounds_toArray, List.set_cons_zero, List.set_cons_succ, List.getElem_toArray, List.getElem_cons_succ, List.getElem_cons_zero]
                refine wpAnyH_take (i := 1) (v := ?_) rfl (by kernel_rfl) (by kernel_rfl) (by kernel_rfl) (fun _ _ _ h => h) (Or.inl ⟨by rfl, ?_⟩) (by assumption) ?_
                rotate_left
                · intro w hSw; (try dsimp only at hSw); obtain ⟨s0, s1⟩ := hSw; go_simp; all_goals (with_reducible rfl)
                try simp only [Act.put, List.setIfInBounds_toArray, List.set_cons_zero, List.set_cons_succ, List.getElem_toArray, List.getElem_cons_succ, List.getElem_cons_zero]
                refine wpAnyH_take (i := 2) (v := ?_) rfl (by kernel_rfl) (by kernel_rfl) (by kernel_rfl) (fun _ _ _ h => h) (Or.inl ⟨by rfl, ?_⟩) (by assumption) ?_
                rotate_left
                · intro w hSw; (try dsimp only at hSw); obtain ⟨s0, s1⟩ := hSw; go_simp; all_goals (with_reducible rfl)
                try simp only [Act.put, List.setIfInBounds_toArray, List.set_cons_zero, List.set_cons_succ, List.getElem_toArray, List.getElem_cons_succ, List.getElem_cons_zero]
                refine wpAnyH_take (i := 3) (v := ?_) rfl (by kernel_rfl) (by kernel_rfl) (by kernel_rfl) (fun _ _ _ h => h) (Or.inl ⟨by rfl, ?_⟩) (by assumption) ?_
                rotate_left
                · intro w hSw; (try dsimp only at hSw); obtain ⟨s0, s1⟩ := hSw; go_simp; all_goals (with_reducible rfl)
                try simp only [Act.put, List.setIfInBounds_toArray, List.set_cons_zero, List.set_cons_succ, List.getElem_toArray, List.getElem_cons_succ, List.getElem_cons_zero]
                refine wpAnyH_take (i := 4) (v := ?_) rfl (by kernel_rfl) (by kernel_rfl) (by kernel_rfl) (fun _ _ _ h => h) (Or.inl ⟨by rfl, ?_⟩) (by assumption) ?_
                rotate_left
                · intro w hSw; (try dsimp only at hSw); obtain ⟨s0, s1⟩ := hSw; go_simp; all_goals (with_reducible rfl)
                try simp only [Act.put, List.setIfInBounds_toArray, List.set_cons_zero, List.set_cons_succ, List.getElem_toArray, List.getElem_cons_succ, List.getElem_cons_zero]
                refine wpAnyH_take (i := 5) (v := ?_) rfl (by kernel_rfl) (by kernel_rfl) (by kernel_rfl) (fun _ _ _ h => h) (Or.inl ⟨by rfl, ?_⟩) (by assumption) ?_
                rotate_left
                · intro w hSw; (try dsimp only at hSw); obtain ⟨s0, s1⟩ := hSw; go_simp; all_goals (with_reducible rfl)
                try simp only [Act.put, List.setIfInBounds_toArray, List.set_cons_zero, List.set_cons_succ, List.getElem_toArray, List.getElem_cons_succ, List.getElem_cons_zero]
                refine wpAnyH_take (i := 6) (v := ?_) rfl (by kernel_rfl) (by kernel_rfl) (by kernel_rfl) (fun _ _ _ h => h) (Or.inl ⟨by rfl, ?_⟩) (by assumption) ?_
                rotate_left
                · intro w hSw; (try dsimp only at hSw); obtain ⟨s0, s1⟩ := hSw; go_simp; all_goals (with_reducible rfl)
                try simp only [Act.put, List.setIfInBounds_toArray, List.set_cons_zero, List.set_cons_succ, List.getElem_toArray, List.getElem_cons_succ, List.getElem_cons_zero]
                refine wpAnyH_take (i := 7) (v := ?_) rfl (by kernel_rfl) (by kernel_rfl) (by kernel_rfl) (fun _ _ _ h => h) (Or.inl ⟨by rfl, ?_⟩) (by assumption) ?_
                rotate_left
                · intro w hSw; (try dsimp only at hSw); obtain ⟨s0, s1⟩ := hSw; go_simp; all_goals (with_reducible rfl)
                try simp only [Act.put, List.setIfInBounds_toArray, List.set_cons_zero, List.set_cons_succ, List.getElem_toArray, List.getElem_cons_succ, List.getElem_cons_zero]
                refine wpAnyH_take (i := 8) (v := ?_) rfl (by kernel_rfl) (by kernel_rfl) (by kernel_rfl) (fun _ _ _ h => h) (Or.inl ⟨by rfl, ?_⟩) (by assumption) ?_
                rotate_left
                · intro w hSw; (try dsimp only at hSw); obtain ⟨s0, s1⟩ := hSw; go_simp; all_goals (with_reducible rfl)
                try simp only [Act.put, List.setIfInBounds_toArray, List.set_cons_zero, List.set_cons_succ, List.getElem_toArray, List.getElem_cons_succ, List.getElem_cons_zero]
                refine wpAnyH_take (i := 9) (v := ?_) rfl (by kernel_rfl) (by kernel_rfl) (by kernel_rfl) (fun _ _ _ h => h) (Or.inl ⟨by rfl, ?_⟩) (by assumption) ?_
                rotate_left
                · intro w hSw; (try dsimp only at hSw); obtain ⟨s0, s1⟩ := hSw; go_simp; all_goals (with_reducible rfl)
                try simp only [Act.put, List.setIfInBounds_toArray, List.set_cons_zero, List.set_cons_succ, List.getElem_toArray, List.getElem_cons_succ, List.getElem_cons_zero]
                refine wpAnyH_take (i := 10) (v := ?_) rfl (by kernel_rfl) (by kernel_rfl) (by kernel_rfl) (fun _ _ _ h => h) (Or.inl ⟨by rfl, ?_⟩) (by assumption) ?_
                rotate_left
                · intro w hSw; (try dsimp only at hSw); obtain ⟨s0, s1⟩ := hSw; go_simp; all_goals (with_reducible rfl)
                try simp only [Act.put, List.setIfInBounds_toArray, List.set_cons_zero, List.set_cons_succ, List.getElem_toArray, List.getElem_cons_succ, List.getElem_cons_zero]
                refine wpAnyH_take (i := 11) (v := ?_) rfl (by kernel_rfl) (by kernel_rfl) (by kernel_rfl) (fun _ _ _ h => h) (Or.inl ⟨by rfl, ?_⟩) (by assumption) ?_
                rotate_left
                · intro w hSw; (try dsimp only at hSw); obtain ⟨s0, s1⟩ := hSw; go_simp; all_goals (with_reducible rfl)
                try simp only [Act.put, List.setIfInBounds_toArray, List.set_cons_zero, List.set_cons_succ, List.getElem_toArray, List.getElem_cons_succ, List.getElem_cons_zero]
                refine wpAnyH_take (i := 12) (v := ?_) rfl (by kernel_rfl) (by kernel_rfl) (by kernel_rfl) (fun _ _ _ h => h) (Or.inl ⟨by rfl, ?_⟩) (by assumption) ?_
                rotate_left
                · intro w hSw; (try dsimp only at hSw); obtain ⟨s0, s1⟩ := hSw; go_simp; all_goals (with_reducible rfl)
                try simp only [Act.put, List.setIfInBounds_toArray, List.set_cons_zero, List.set_cons_succ, List.getElem_toArray, List.getElem_cons_succ, List.getElem_cons_zero]
                refine wpAnyH_take (i := 13) (v := ?_) rfl (by kernel_rfl) (by kernel_rfl) (by kernel_rfl) (fun _ _ _ h => h) (Or.inl ⟨by rfl, ?_⟩) (by assumption) ?_
                rotate_left
                · intro w hSw; (try dsimp only at hSw); obtain ⟨s0, s1⟩ := hSw; go_simp; all_goals (with_reducible rfl)
                try simp only [Act.put, List.setIfInBounds_toArray, List.set_cons_zero, List.set_cons_succ, List.getElem_toArray, List.getElem_cons_succ, List.getElem_cons_zero]
                refine wpAnyH_ready (rs := [14]) (by kernel_rfl) (by simp) ?_
                refine AllReadyH.cons rfl (fun K hK => ?_) AllReadyH.nil
                go_simp
                rw [wrap_two r0 N1 x1 r0b (by rw [hpp.out]; exact hx1.out)]
                refine (HW2.out _ ((Bw.refl wr).drew)).mono ?_
                rintro e w8 ⟨rfl, hS8⟩
                obtain ⟨q2, q3⟩ := HC3.out _ _ hS8.out
                refine hK.out _ _ (⟨q2, q3⟩) (fun hHeld => ?_)
                clear hK K
                try simp only [Act.put, List.setIfInBounds_toArray, List.set_cons_zero, List.set_cons_succ, List.getElem_toArray, List.getElem_cons_succ, List.getElem_cons_zero]
                refine wpAnyH_take (i := 15) (v := ?_) rfl (by kernel_rfl) (by kernel_rfl) (by kernel_rfl) (fun _ _ _ h => h) (Or.inl ⟨by rfl, ?_⟩) (by assumption) ?_
                rotate_left
                · intro w hSw; (try dsimp only at hSw); go_simp; all_goals (with_reducible rfl)
                try simp only [Act.put, List.setIfInBounds_toArray, List.set_cons_zero, List.set_cons_succ, List.getElem_toArray, List.getElem_cons_succ, List.getElem_cons_zero]
                refine wpAnyH_done (by kernel_rfl) ?_ _
                go_wp2_with (go_at_call 77; refine (HSy.out _ hS8.out).mono ?_; rintro e w9 ⟨rfl, hS9⟩)
                go_ret
                exact hPx.out _ hS9.out
            · rw [if_neg hw0] at HGood HBad2
              have hE1 : (Wt.1 != 0) = true := by rw [bne_iff_ne]; exact hw0
              have hE2 : (Wt.1 == 0) = false := by rw [beq_eq_false_iff_ne]; exact hw0
              have hPx : Hid (∀ u, WrAt w base gj g cb cap R v J A B Wt.2 u → RPutV base gj g cb cap R v (Jl.put J S B area at_) w (.returned (.int .i64 Wt.1)) u) := fun u hu => HBad2.out Wt.2 Wt.1 u hw0 rfl hu
              clear hw0 HGood HBad2
              go_upto_region 31 with fail
              refine wp_region_held_drew (S := fun w' => w'.cell? ⟨gj, 0, none⟩ = some (.pointer (some ⟨g, 0, none⟩)) ∧ w'.cell? ⟨gj, 1, none⟩ = some (.int .i64 (r0 : Int))) (by kernel_rfl) (⟨((Bw.refl wr).drew.cell (p := ⟨gj, 0, none⟩) (block_lt_of_cell q0)).trans q0, ((Bw.refl wr).drew.cell (p := ⟨gj, 1, none⟩) (block_lt_of_cell q1)).trans q1⟩) (fun hHeld => ?_)
              refine wpAnyH_take (i := 0) (v := ?_) rfl (by kernel_rfl) (by kernel_rfl) (by kernel_rfl) (fun _ _ _ h => h) (Or.inl ⟨by rfl, ?_⟩) (by assumption) ?_
              rotate_left
              · intro w hSw; (try dsimp only at hSw); obtain ⟨s0, s1⟩ := hSw; go_simp; all_goals (with_reducible rfl)
              try simp only [Act.put, List.setIfInBounds_toArray, List.set_cons_zero, List.set_cons_succ, List.getElem_toArray, List.getElem_cons_succ, List.getElem_cons_zero]
              refine wpAnyH_take (i := 1) (v := ?_) rfl (by kernel_rfl) (by kernel_rfl) (by kernel_rfl) (fun _ _ _ h => h) (Or.inl ⟨by rfl, ?_⟩) (by assumption) ?_
              rotate_left
              · intro w hSw; (try dsimp only at hSw); obtain ⟨s0, s1⟩ := hSw; go_simp; all_goals (with_reducible rfl)
              try simp only [Act.put, List.setIfInBounds_toArray, List.set_cons_zero, List.set_cons_succ, List.getElem_toArray, List.getElem_cons_succ, List.getElem_cons_zero]
              refine wpAnyH_take (i := 2) (v := ?_) rfl (by kernel_rfl) (by kernel_rfl) (by kernel_rfl) (fun _ _ _ h => h) (Or.inl ⟨by rfl, ?_⟩) (by assumption) ?_
              rotate_left
              · intro w hSw; (try dsimp only at hSw); obtain ⟨s0, s1⟩ := hSw; go_simp; all_goals (with_reducible rfl)
              try simp only [Act.put, List.setIfInBounds_toArray, List.set_cons_zero, List.set_cons_succ, List.getElem_toArray, List.getElem_cons_succ, List.getElem_cons_zero]
              refine wpAnyH_take (i := 3) (v := ?_) rfl (by kernel_rfl) (by kernel_rfl) (by kernel_rfl) (fun _ _ _ h => h) (Or.inl ⟨by rfl, ?_⟩) (by assumption) ?_
              rotate_left
              · intro w hSw; (try dsimp only at hSw); obtain ⟨s0, s1⟩ := hSw; go_simp; all_goals (with_reducible rfl)
              try simp only [Act.put, List.setIfInBounds_toArray, List.set_cons_zero, List.set_cons_succ, List.getElem_toArray, List.getElem_cons_succ, List.getElem_cons_zero]
              refine wpAnyH_take (i := 4) (v := ?_) rfl (by kernel_rfl) (by kernel_rfl) (by kernel_rfl) (fun _ _ _ h => h) (Or.inl ⟨by rfl, ?_⟩) (by assumption) ?_
              rotate_left
              · intro w hSw; (try dsimp only at hSw); obtain ⟨s0, s1⟩ := hSw; go_simp; all_goals (with_reducible rfl)
              try simp only [Act.put, List.setIfInBounds_toArray, List.set_cons_zero, List.set_cons_succ, List.getElem_toArray, List.getElem_cons_succ, List.getElem_cons_zero]
              refine wpAnyH_take (i := 5) (v := ?_) rfl (by kernel_rfl) (by kernel_rfl) (by kernel_rfl) (fun _ _ _ h => h) (Or.inl ⟨by rfl, ?_⟩) (by assumption) ?_
              rotate_left
              · intro w hSw; (try dsimp only at hSw); obtain ⟨s0, s1⟩ := hSw; go_simp; all_goals (with_reducible rfl)
              try simp only [Act.put, List.setIfInBounds_toArray, List.set_cons_zero, List.set_cons_succ, List.getElem_toArray, List.getElem_cons_succ, List.getElem_cons_zero]
              refine wpAnyH_take (i := 6) (v := ?_) rfl (by kernel_rfl) (by kernel_rfl) (by kernel_rfl) (fun _ _ _ h => h) (Or.inl ⟨by rfl, ?_⟩) (by assumption) ?_
              rotate_left
              · intro w hSw; (try dsimp only at hSw); obtain ⟨s0, s1⟩ := hSw; go_simp; all_goals (with_reducible rfl)
              try simp only [Act.put, List.setIfInBounds_toArray, List.set_cons_zero, List.set_cons_succ, List.getElem_toArray, List.getElem_cons_succ, List.getElem_cons_zero]
              refine wpAnyH_take (i := 7) (v := ?_) rfl (by kernel_rfl) (by kernel_rfl) (by kernel_rfl) (fun _ _ _ h => h) (Or.inl ⟨by rfl, ?_⟩) (by assumption) ?_
              rotate_left
              · intro w hSw; (try dsimp only at hSw); obtain ⟨s0, s1⟩ := hSw; go_simp; all_goals (with_reducible rfl)
              try simp only [Act.put, List.setIfInBounds_toArray, List.set_cons_zero, List.set_cons_succ, List.getElem_toArray, List.getElem_cons_succ, List.getElem_cons_zero]
              refine wpAnyH_take (i := 8) (v := ?_) rfl (by kernel_rfl) (by kernel_rfl) (by kernel_rfl) (fun _ _ _ h => h) (Or.inl ⟨by rfl, ?_⟩) (by assumption) ?_
              rotate_left
              · intro w hSw; (try dsimp only at hSw); obtain ⟨s0, s1⟩ := hSw; go_simp; all_goals (with_reducible rfl)
              try simp only [Act.put, List.setIfInBounds_toArray, List.set_cons_zero, List.set_cons_succ, List.getElem_toArray, List.getElem_cons_succ, List.getElem_cons_zero]
              refine wpAnyH_take (i := 9) (v := ?_) rfl (by kernel_rfl) (by kernel_rfl) (by kernel_rfl) (fun _ _ _ h => h) (Or.inl ⟨by rfl, ?_⟩) (by assumption) ?_
              rotate_left
              · intro w hSw; (try dsimp only at hSw); obtain ⟨s0, s1⟩ := hSw; go_simp; all_goals (with_reducible rfl)
              try simp only [Act.put, List.setIfInBounds_toArray, List.set_cons_zero, List.set_cons_succ, List.getElem_toArray, List.getElem_cons_succ, List.getElem_cons_zero]
              refine wpAnyH_take (i := 10) (v := ?_) rfl (by kernel_rfl) (by kernel_rfl) (by kernel_rfl) (fun _ _ _ h => h) (Or.inl ⟨by rfl, ?_⟩) (by assumption) ?_
              rotate_left
              · intro w hSw; (try dsimp only at hSw); obtain ⟨s0, s1⟩ := hSw; go_simp; all_goals (with_reducible rfl)
              try simp only [Act.put, List.setIfInBounds_toArray, List.set_cons_zero, List.set_cons_succ, List.getElem_toArray, List.getElem_cons_succ, List.getElem_cons_zero]
              refine wpAnyH_take (i := 11) (v := ?_) rfl (by kernel_rfl) (by kernel_rfl) (by kernel_rfl) (fun _ _ _ h => h) (Or.inl ⟨by rfl, ?_⟩) (by assumption) ?_
              rotate_left
              · intro w hSw; (try dsimp only at hSw); obtain ⟨s0, s1⟩ := hSw; go_simp; all_goals (with_reducible rfl)
              try simp only [Act.put, List.setIfInBounds_toArray, List.set_cons_zero, List.set_cons_succ, List.getElem_toArray, List.getElem_cons_succ, List.getElem_cons_zero]
              refine wpAnyH_take (i := 12) (v := ?_) rfl (by kernel_rfl) (by kernel_rfl) (by kernel_rfl) (fun _ _ _ h => h) (Or.inl ⟨by rfl, ?_⟩) (by assumption) ?_
              rotate_left
              · intro w hSw; (try dsimp only at hSw); obtain ⟨s0, s1⟩ := hSw; go_simp; all_goals (with_reducible rfl)
              try simp only [Act.put, List.setIfInBounds_toArray, List.set_cons_zero, List.set_cons_succ, List.getElem_toArray, List.getElem_cons_succ, List.getElem_cons_zero]
              refine wpAnyH_take (i := 13) (v := ?_) rfl (by kernel_rfl) (by kernel_rfl) (by kernel_rfl) (fun _ _ _ h => h) (Or.inl ⟨by rfl, ?_⟩) (by assumption) ?_
              rotate_left
              · intro w hSw; (try dsimp only at hSw); obtain ⟨s0, s1⟩ := hSw; go_simp; all_goals (with_reducible rfl)
              try simp only [Act.put, List.setIfInBounds_toArray, List.set_cons_zero, List.set_cons_succ, List.getElem_toArray, List.getElem_cons_succ, List.getElem_cons_zero]
              refine wpAnyH_ready (rs := [14]) (by kernel_rfl) (by simp) ?_
              refine AllReadyH.cons rfl (fun K hK => ?_) AllReadyH.nil
              go_simp
              rw [wrap_two r0 N1 x1 r0b (by rw [hpp.out]; exact hx1.out)]
              refine (HW2.out _ ((Bw.refl wr).drew)).mono ?_
              rintro e w8 ⟨rfl, hS8⟩
              obtain ⟨q2, q3⟩ := HC3.out _ _ hS8.out
              refine hK.out _ _ (⟨q2, q3⟩) (fun hHeld => ?_)
              clear hK K
              try simp only [Act.put, List.setIfInBounds_toArray, List.set_cons_zero, List.set_cons_succ, List.getElem_toArray, List.getElem_cons_succ, List.getElem_cons_zero]
              refine wpAnyH_take (i := 15) (v := ?_) rfl (by kernel_rfl) (by kernel_rfl) (by kernel_rfl) (fun _ _ _ h => h) (Or.inl ⟨by rfl, ?_⟩) (by assumption) ?_
              rotate_left
              · intro w hSw; (try dsimp only at hSw); go_simp; all_goals (with_reducible rfl)
              try simp only [Act.put, List.setIfInBounds_toArray, List.set_cons_zero, List.set_cons_succ, List.getElem_toArray, List.getElem_cons_succ, List.getElem_cons_zero]
              refine wpAnyH_done (by kernel_rfl) ?_ _
              go_wp2
              go_ret
              exact hPx.out _ hS8.out
end Go.Proofs.Ytppknadflmjefaa
