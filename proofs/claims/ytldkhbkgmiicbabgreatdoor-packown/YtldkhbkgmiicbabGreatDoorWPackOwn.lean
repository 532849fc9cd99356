/- Proved: for every list of items and every item the statement PackOwn answers true (the document's P12.8: what is told twice is the same, and apart, its spare room too). -/
import Derived.Test.YtldkhbkgmiicbabGreatDoorBu37
import Derived.Test.YtldkhbkgmiicbabGreatDoorBu15
import Derived.Test.YtldkhbkgmiicbabGreatDoorBu38
import Derived.Test.YtldkhbkgmiicbabGreatDoorCards
import Derived.Test.YtldkhbkgmiicbabGreatDoorTie
import Derived.ShutString
import Derived.ChangeOld
import Derived.SevenTiedAt
namespace Go.Proofs.YtldkhbkgmiicbabGreatDoor.packOwn
open Go.ChangeShapes Go.WideShapes Go.ChangeAt Go.RowKit Go.Deep
set_option linter.unusedVariables false

open Go.Deep
set_option linter.unusedSimpArgs false
theorem key_not {x : Tr.It} {er : Int} {p : Px.Pr} (h : p ∈ Pk.prs x er) : p.1 = Pk.linkK ∨ p.1 = Pk.pathK := by
  unfold Pk.prs at h
  rcases List.mem_append.1 h with h | h
  · split at h
    · rw [List.mem_singleton.1 h]; exact .inl rfl
    · cases h
  · split at h
    · rw [List.mem_singleton.1 h]; exact .inr rfl
    · cases h
set_option maxRecDepth 100000 in
set_option maxHeartbeats 8000000 in
set_option maxRecDepth 100000 in
set_option maxHeartbeats 4000000 in
theorem walk (a0 : Option Addr) (len0 cap0 : Nat) (L0 : List Tr.Iv) (y1 : Tr.Iv) (w : World) (hk : KTAt w) (w0 : InIts w a0 len0 cap0 L0) (w1 : BodyAt w y1) :
    Calls Tryz.prog 3 #[.slice a0 len0 cap0, .agg (Tr.Iv.vals y1).toArray] w fun e w' => e = .returned (.bool true) ∧ Below w.heap.size w w' := by
  obtain ⟨hlen, hits, hle, hroom, hnil⟩ := w0
  have hle' : (len0 : Int) ≤ 140737488351232 := by omega
  have HNL : Hid (L0.length = len0) := hlen
  obtain ⟨W0, hW0⟩ : ∃ W, Hid (w.alloc (.cells (Tr.Iv.vals y1).toArray 26) = W) := ⟨_, rfl⟩
  obtain ⟨z, hz⟩ : ∃ z, Hid (w.heap.size = z) := ⟨_, rfl⟩
  have hb0 : Bw w W0 := by rw [← hW0.out]; exact bw_alloc11 (Bw.refl _) _
  have HX : Hid (BoxAt W0 z y1) := by rw [← hW0.out, ← hz.out]; exact BoxAt.new _ _
  have HB0 : Hid (Bw w W0) := hb0
  have HK : Hid (KTAt W0) := hk.keep hb0
  have HI : Hid (ItsAt W0 a0 L0) := hits.keep hb0
  have HFit : Hid (Tr.Fit y1.it) := w1.fit
  clear hk hits w1
  have HAw : Hid (∀ u, Bw W0 u → Calls Tryz.prog 5 #[] u fun e w' => e = .returned (.bool true) ∧ Bw u w') := fun u hu => awake12_any u (HK.out.keep hu)
  have HLent : Hid (∀ u, Bw W0 u → Calls Tryz.prog 6 #[.slice a0 len0 cap0] u fun e w' => ∃ g c M, e = .returned (.slice (some ⟨g, 0, none⟩) len0 c) ∧ Tr.its M = Tr.its L0 ∧ LentAt w' g c M ∧ u.heap.size ≤ g ∧ Bw u w') := fun u hu => by
    have := lent12_any a0 cap0 L0 (by rw [HNL.out]; omega) u (HI.out.keep hu)
    rwa [HNL.out] at this
  obtain ⟨V, vi, er, hR⟩ : ∃ r i er, Hid (Pk.wr (Tr.its L0) = (r, i, er)) := ⟨_, _, _, show Pk.wr (Tr.its L0) = _ from rfl⟩
  have hVl : V.length ≤ 131072 := by have := Pk.wr_len (Tr.its L0); rw [hR.out] at this; exact this
  obtain ⟨l, hl⟩ : ∃ l, Hid (V.length = l) := ⟨_, rfl⟩
  rw [hl.out] at hVl
  have HW : Hid (∀ u g c M, Bw W0 u → Tr.its M = Tr.its L0 → LentAt u g c M → Calls Tryz.prog 7 #[.slice (some ⟨g, 0, none⟩) len0 c] u fun e w' => ∃ A c', e = .returned (.tuple #[.slice A l c', .int .i64 (vi : Int), .int .i64 er]) ∧ Hid (w'.ownsRow u.heap.size 5 1 (.slice A l c') l (Lib.byteCells V)) ∧ Bw u w') := fun u g c M hu he hl' => by
    have hml : M.length = len0 := by have := congrArg List.length he; rwa [Tr.its_len, Tr.its_len, HNL.out] at this
    have := pkwrite_any (some ⟨g, 0, none⟩) c M (by omega) (by have := hl'.room; omega) u hl'.its (HK.out.keep hu)
    rw [hml] at this
    refine this.mono ?_
    rintro e w' ⟨⟨v, h1, h2⟩, h3⟩
    rw [he, hR.out] at h1 h2
    dsimp only at h1 h2
    rw [hl.out] at h2
    obtain ⟨A, c', rfl⟩ := own_slice12 h2
    exact ⟨A, c', h1, h2, h3⟩
  have HSa : Hid (∀ (A C : Option Addr) (ca cb : Nat) (u : World), RowAt u A l (Hd.rowF V) → RowAt u C l (Hd.rowF V) → Calls Tryz.prog 12 #[.slice A l ca, .slice C l cb] u fun e w' => e = .returned (.bool true) ∧ Bw u w') := fun A C ca cb u h1 h2 => by
    refine (same12_any A C l l ca cb _ _ (by omega) (by omega) u h1 h2).mono fun e w' ⟨ht, q, hq⟩ => ⟨?_, bw_of_drew hq⟩
    obtain ⟨x, rfl, hx⟩ := ht
    rw [hx.2 ⟨rfl, fun _ _ => rfl⟩]
  have HKept : Hid (∀ u g c M, Bw W0 u → Tr.its M = Tr.its L0 → LentAt u g c M → Calls Tryz.prog 13 #[.slice (some ⟨g, 0, none⟩) len0 c, .slice a0 len0 cap0] u fun e w' => e = .returned (.bool true) ∧ Bw u w') := fun u g c M hu he hl => by
    have := kept12_any g c cap0 a0 M L0 (by rw [HNL.out]; omega) he u hl (HI.out.keep hu)
    rwa [HNL.out] at this
  clear hlen hnil hb0
  by_cases h0 : er = 0
  rotate_left
  · have hV0 : V = [] := by have := Pk.wr_err (t := Tr.its L0) (by rw [hR.out]; exact h0); rw [hR.out] at this; exact this
    have hl0 : l = 0 := by rw [← hl.out, hV0]; rfl
    have e1 : (er != 0) = true := by rw [bne_iff_ne]; exact h0
    subst hl0
    clear hV0 h0
    go_enter Tryz.func3, Tryz.ntmps3
    go_wp2_with (first
      | rw [hW0.out, hz.out]
      | (go_at_call 5; refine (HAw.out _ (Bw.refl _)).mono ?_; rintro e w1 ⟨rfl, hb1⟩)
      | (go_at_call 6; refine (HLent.out _ hb1).mono ?_; rintro e w2 ⟨g1, c1, M1, rfl, he1, hl1, hg1, hw2⟩; have hb2 := hb1.trans hw2)
      | (go_at_call 7; refine (HW.out _ g1 c1 M1 hb2 he1 hl1).mono ?_; rintro e w3 ⟨A3, c3, rfl, ho3, hw3⟩; have hb3 := hb2.trans hw3)
      | (go_at_call 7; refine (HW.out _ g1 c1 M1 hb3 he1 (hl1.keep hw3)).mono ?_; rintro e w4 ⟨A4, c4, rfl, ho4, hw4⟩; have hb4 := hb3.trans hw4)
      | (go_at_call 8; refine (wnew_any _).mono ?_; rintro e w5 ⟨rfl, hw⟩; obtain rfl := hw.symm))
    go_ret
    exact ⟨rfl, HB0.out.trans (bw_alloc11 hb4 _)⟩
  subst h0
  have HV : Hid (V = Pk.flat (Tr.its L0) ++ List.replicate 1024 0) := by
    have := Pk.wr_zero (t := Tr.its L0) (by rw [hR.out])
    rw [hR.out] at this
    exact congrArg Prod.fst this
  have HPre : Hid (∀ k, Pk.wr ((Tr.its L0).take k) = (Pk.flat ((Tr.its L0).take k) ++ List.replicate 1024 0, 0, 0)) := fun k => Pk.wr_pre (by rw [hR.out]) k
  obtain ⟨PR, ep, hPR2, hPRk, HPairs⟩ : ∃ (PR : List Px.Pr) (ep : Int), PR.length ≤ 2 ∧ Hid (∀ p ∈ PR, p.1 = Pk.linkK ∨ p.1 = Pk.pathK) ∧ Hid (∀ u, Calls Tryz.prog 11 #[.agg y1.arr] u fun e w' => ∃ A c, e = .returned (.tuple #[.slice A PR.length c, .int .i64 ep]) ∧ Hid (w'.ownsRow u.heap.size 42 2 (.slice A PR.length c) PR.length (Px.cellsPr PR)) ∧ Bw u w') := by
    obtain ⟨sa, sb, se, hS⟩ := Pk.split_ex y1.it.path
    by_cases hm : Tr.mayE y1.it = 0
    · refine ⟨Pk.prs y1.it se, 0, Pk.prs_len _ _, (by unfold Hid; intro p hp; exact key_not hp), ?_⟩
      unfold Hid
      intro u
      refine (ppairs_any y1 HFit.out hS u).mono ?_
      rintro e w' ⟨⟨_, h2⟩, h3⟩
      obtain ⟨v, h4, h5⟩ := h2 hm
      obtain ⟨A, c, rfl⟩ := own_slice12 h5
      exact ⟨A, c, h4, h5, h3⟩
    · refine ⟨[], Tr.mayE y1.it, by decide, (by unfold Hid; intro p hp; cases hp), ?_⟩
      unfold Hid
      intro u
      refine (ppairs_any y1 HFit.out hS u).mono ?_
      rintro e w' ⟨⟨h2, _⟩, h3⟩
      exact ⟨none, 0, h2 hm, World.ownsRow_nil _ _ _ _, h3⟩
  obtain ⟨np, hnp⟩ : ∃ n, Hid (PR.length = n) := ⟨_, rfl⟩
  rw [hnp.out] at hPR2 HPairs
  have hbg : Tryz.prog.built 42 [(0, .string ⟨#[103, 111, 110, 101]⟩)] = some #[.string ⟨#[103, 111, 110, 101]⟩, .string ⟨#[]⟩] := by kernel_rfl
  have hbm : Tryz.prog.built 42 [(0, .string ⟨#[109, 111, 114, 101]⟩)] = some #[.string ⟨#[109, 111, 114, 101]⟩, .string ⟨#[]⟩] := by kernel_rfl
  have hpi : (Tryz.prog.info? 42).map (·.size) = some (#[.string ⟨#[103, 111, 110, 101]⟩, .string ⟨#[]⟩] : Array Value).size := by kernel_rfl
  go_enter Tryz.func3, Tryz.ntmps3
  go_upto_region 9 with (first
    | rw [hW0.out, hz.out]
    | (go_at_call 5; refine (HAw.out _ (Bw.refl _)).mono ?_; rintro e w1 ⟨rfl, hb1⟩)
    | (go_at_call 6; refine (HLent.out _ hb1).mono ?_; rintro e w2 ⟨g1, c1, M1, rfl, he1, hl1, hg1, hw2⟩; have hb2 := hb1.trans hw2)
    | (go_at_call 7; refine (HW.out _ g1 c1 M1 hb2 he1 hl1).mono ?_; rintro e w3 ⟨A3, c3, rfl, ho3, hw3⟩; have hb3 := hb2.trans hw3)
    | (go_at_call 7; refine (HW.out _ g1 c1 M1 hb3 he1 (hl1.keep hw3)).mono ?_; rintro e w4 ⟨A4, c4, rfl, ho4, hw4⟩; have hb4 := hb3.trans hw4)
    | (go_at_call 8; refine (wnew_any _).mono ?_; rintro e w5 ⟨rfl, hw⟩; obtain rfl := hw.symm))
  obtain ⟨g, hg⟩ : ∃ g, Hid (w4.heap.size = g) := ⟨_, rfl⟩
  have k45 : Bw w4 (w4.alloc (.cells #[.slice none 0 0, .int .i64 0, .slice none 0 0, .bool false] 59)) := bw_alloc11 (Bw.refl _) _
  have hWk : Hid (∃ v AI cI, WOk (w4.alloc (.cells #[.slice none 0 0, .int .i64 0, .slice none 0 0, .bool false] 59)) g g ((Tr.its L0).take 0) v AI cI) := by
    rw [← hg.out, List.take_zero]
    exact ⟨.slice none 0 0, none, 0, heap_alloc_new _ _, ⟨rfl, World.ownsRow_nil _ _ _ _⟩, World.ownsRow_nil _ _ _ _, fun i x hx => by simp at hx, by simp, by decide, fun x hx => by simp at hx⟩
  obtain ⟨w5, hw5⟩ : ∃ V, Hid (w4.alloc (.cells #[.slice none 0 0, .int .i64 0, .slice none 0 0, .bool false] 59) = V) := ⟨_, rfl⟩
  rw [hw5.out] at k45 hWk ⊢
  rw [hg.out]
  have HK5 : Hid (Bw w4 w5) := k45
  have HB4 : Hid (Bw W0 w4) := hb4
  clear k45
  go_wp2
  go_loopw [13] (fun i wr => ∃ k : Nat, k ≤ len0 ∧ i = .int .i64 (k : Int) ∧ Hid (Bw w4 wr) ∧ Hid (∃ v AI cI, WOk wr g g ((Tr.its L0).take k) v AI cI)) (fun i _ => len0 - (intOf i).toNat)
  case atStart => exact ⟨0, Nat.zero_le _, rfl, HK5.out, hWk.out⟩
  case round =>
    obtain ⟨k, hk, rfl, hbw, hwk⟩ := hrel
    clear hWk HK5
    have k0 : (0 : Int) ≤ (k : Int) := Int.natCast_nonneg _
    by_cases hlt : k < len0
    · have i1 : (k : Int) < (len0 : Int) := by omega
      have i2 : (k : Int) ≤ 140737488351232 := by omega
      obtain ⟨y, hy⟩ : ∃ y, Hid (L0[k]? = some y) := ⟨_, List.getElem?_eq_getElem (by rw [HNL.out]; exact hlt)⟩
      obtain ⟨b, off, rfl, hY, hBy⟩ := ((HI.out.keep (HB4.out.trans hbw.out))).at hy.out
      have HY : Hid (ItAt wr b (off + k * 6) y) := hY
      have hyl : ∀ b o, y.ad = some ⟨b, o, none⟩ → 0 < y.it.body.length → b < g := fun b o e h0 => by
        have h1 := body_lowb (HI.out.body y (List.mem_of_getElem? hy.out)) b o e h0
        have := HB4.out.size; have := hg.out; omega
      have hts : (Tr.its L0).take (k + 1) = (Tr.its L0).take k ++ [y.it] := Tr.take_snoc (by unfold Tr.its; rw [List.getElem?_map, hy.out]; rfl)
      have HAdd : Hid (Calls Tryz.prog 9 #[.pointer (some ⟨g, 0, none⟩), .agg y.arr] wr fun e w' => e = .returned (.int .i64 0) ∧ Hid (Bw w4 w') ∧ Hid (∃ v AI cI, WOk w' g g ((Tr.its L0).take (k + 1)) v AI cI)) := by
        obtain ⟨v, AI, cI, ho⟩ := hwk.out
        have hgs : g ≤ wr.heap.size := by rw [← hg.out]; exact hbw.out.size
        have hin : ∀ b, wIn g v (.slice AI ((Tr.its L0).take k).length cI) b → g ≤ b := fun b hb => by
          rcases hb with rfl | hb | hb
          · exact Nat.le_refl _
          · exact (World.ownsRow.lt ho.roll.2 b hb).1
          · exact (World.ownsRow.lt ho.its b hb).1
        have hA := wadd_any ho (HPre.out k) y hBy hgs (Nat.le_refl _) (fun b o e h0 => by
          have h1 := hyl b o e h0
          exact ⟨by omega, by omega, fun e1 => by have := (World.ownsRow.lt ho.roll.2 b e1).1; omega⟩) (fun u hu => HK.out.keep (HB4.out.trans (Below.trans hbw.out (by rw [hg.out]; exact hu))))
        rw [← hts, HPre.out (k + 1)] at hA
        refine hA.mono ?_
        rintro e w' ⟨h1, v', AI', cI', h2, h3, h4⟩
        rw [if_pos rfl] at h2
        exact ⟨h1, by have := h3.below hgs hin; rw [← hg.out] at this; exact Below.trans hbw.out this, ⟨v', AI', cI', h2⟩⟩
      clear hY hBy hyl hts
      go_wp2_with (first
        | (refine wpList_load_it (by rfl) (.tmp 68) rfl b (off + k * 6) rfl y HY.out ?_)
        | (go_at_call 9; refine HAdd.out.mono ?_; rintro e wb ⟨rfl, hb5, hwk5⟩))
      go_roundw
      case rel => exact ⟨k + 1, by omega, by go_num, hb5, hwk5⟩
      case measure => simp [intOf]; omega
    · have i1 : ¬ (k : Int) < (len0 : Int) := by omega
      obtain rfl : k = len0 := by omega
      obtain ⟨v, AI, cI, ho⟩ := hwk.out
      have htk : (Tr.its L0).take k = Tr.its L0 := List.take_of_length_le (by rw [Tr.its_len, HNL.out]; exact Nat.le_refl _)
      rw [htk] at ho
      have HCl := wclose_open ho.at_ ho.roll ho.room
      obtain ⟨lc, hlc⟩ : ∃ n, Hid ((Pk.flat (Tr.its L0)).length + 1024 = n) := ⟨_, rfl⟩
      have hlcb : lc ≤ 131072 := by rw [← hlc.out]; exact ho.room
      have HC : Hid (Calls Tryz.prog 10 #[.pointer (some ⟨g, 0, none⟩)] wr fun e w' => ∃ A c, e = .returned (.tuple #[.slice A lc c, .int .i64 0]) ∧ Hid (w'.ownsRow wr.heap.size 5 1 (.slice A lc c) lc (Lib.byteCells (Pk.flat (Tr.its L0) ++ List.replicate 1024 0))) ∧ Hid (Bw w4 w')) := by
        refine HCl.mono ?_
        rintro e w' ⟨uu, h1, h2, h3, h4⟩
        rw [hlc.out] at h2
        obtain ⟨A, c, rfl⟩ := own_slice12 h2
        exact ⟨A, c, h1, h2, by have := h4.below (lo := g) (by rw [← hg.out]; exact hbw.out.size) (fun b e => by subst e; exact Nat.le_refl _); rw [← hg.out] at this; exact Below.trans hbw.out this⟩
      clear HCl ho
      go_upto_region 18 with (first
        | (go_at_call 10; refine HC.out.mono ?_; rintro e w6 ⟨A6, c6, rfl, ho6, hb6⟩; have hX6 := HX.out.keep (HB4.out.trans hb6.out))
        | (refine wpList_load_it (by rfl) (.tmp 3) rfl z 0 rfl y1 hX6.it ?_)
        | (go_at_call 11; refine (HPairs.out _).mono ?_; rintro e w7 ⟨A7, c7, rfl, ho7, hw7⟩; have hX7 := hX6.keep hw7; clear hX6)
        | (refine wpList_load_it (by rfl) (.tmp 3) rfl z 0 rfl y1 hX7.it ?_)
        | (go_at_call 11; refine (HPairs.out _).mono ?_; rintro e w8 ⟨A8, c8, rfl, ho8, hw8⟩))
      have hl1k : 0 < l := by rw [← hl.out, HV.out, List.length_append, List.length_replicate]; omega
      have hlc1 : 0 < lc := by rw [← hlc.out]; omega
      obtain ⟨ga, rfl, hga⟩ := row_some ho3.out hl1k
      obtain ⟨gc, rfl, hgc⟩ := row_some ho6.out hlc1
      have z3 := hga.lt
      have z6 := hgc.lt
      have s34 := hw4.size
      have s4w := hbw.out.size
      have s67 := hw7.size
      have s78 := hw8.size
      have k68 : Bw w6 w8 := hw7.trans hw8
      have k38 : Bw w3 w8 := hw4.trans (hb6.out.trans k68)
      have k89 : Bw w8 (w8.alloc (.cells #[.slice (some ⟨ga, 0, none⟩) l c3, .slice (some ⟨gc, 0, none⟩) lc c6] 24)) := Below.alloc (Bw.refl _) (Nat.le_refl _) _
      have HD9 : Hid (PhD (w8.alloc (.cells #[.slice (some ⟨ga, 0, none⟩) l c3, .slice (some ⟨gc, 0, none⟩) lc c6] 24)) w2.heap.size wr.heap.size ga gc w8.heap.size l c3 lc c6 0 (w8.alloc (.cells #[.slice (some ⟨ga, 0, none⟩) l c3, .slice (some ⟨gc, 0, none⟩) lc c6] 24))) :=
        ⟨Bx.refl _ _, by rw [size_alloc]; omega, ⟨_, _, heap_alloc_new _ _, fun _ => rfl, fun _ => rfl⟩, fun _ => hga.keep (k38.trans k89), fun _ => hgc.keep (k68.trans k89), by omega, by omega, by omega⟩
      have HS9 : Hid (w2.heap.size ≤ ga ∧ w2.heap.size ≤ gc ∧ w2.heap.size ≤ w8.heap.size ∧ (∀ b, w3.heap.size ≤ b → b < w4.heap.size → ¬ S3 ga gc w8.heap.size b) ∧ (∀ b, w6.heap.size ≤ b → b < w8.heap.size → ¬ S3 ga gc w8.heap.size b)) :=
        ⟨by omega, by omega, by omega, fun b h1 h2 e => by rcases e with e | e | e <;> omega, fun b h1 h2 e => by rcases e with e | e | e <;> omega⟩
      have HK29 : Hid (Bw w2 (w8.alloc (.cells #[.slice (some ⟨ga, 0, none⟩) l c3, .slice (some ⟨gc, 0, none⟩) lc c6] 24))) := hw3.trans (k38.trans k89)
      have HB4 : Hid (∀ b, (Value.slice A4 l c4).ownBlock = some b → w3.heap.size ≤ b ∧ b < w4.heap.size) := fun b hb => World.ownsRow.lt ho4.out b hb
      have HL7 : Hid (∀ b, (Value.slice A7 np c7).ownBlock = some b → w6.heap.size ≤ b ∧ b < w7.heap.size) := fun b hb => World.ownsRow.lt ho7.out b hb
      have HM8 : Hid (∀ b, (Value.slice A8 np c8).ownBlock = some b → w7.heap.size ≤ b ∧ b < w8.heap.size) := fun b hb => World.ownsRow.lt ho8.out b hb
      have HZs : Hid (w2.heap.size ≤ w6.heap.size ∧ w4.heap.size ≤ w6.heap.size ∧ w7.heap.size ≤ w8.heap.size ∧ w6.heap.size ≤ w7.heap.size) := by
        have := hw3.size; have := hb6.out.size
        exact ⟨by omega, by omega, by omega, by omega⟩
      have HB49 : Hid ((w8.alloc (.cells #[.slice (some ⟨ga, 0, none⟩) l c3, .slice (some ⟨gc, 0, none⟩) lc c6] 24)).ownsRow w3.heap.size 5 1 (.slice A4 l c4) l (Lib.byteCells V)) := own_keep ho4.out ((hb6.out.trans k68).trans k89)
      have HL79 : Hid ((w8.alloc (.cells #[.slice (some ⟨ga, 0, none⟩) l c3, .slice (some ⟨gc, 0, none⟩) lc c6] 24)).ownsRow w6.heap.size 42 2 (.slice A7 np c7) np (Px.cellsPr PR)) := own_keep ho7.out (hw8.trans k89)
      have HM89 : Hid ((w8.alloc (.cells #[.slice (some ⟨ga, 0, none⟩) l c3, .slice (some ⟨gc, 0, none⟩) lc c6] 24)).ownsRow w7.heap.size 42 2 (.slice A8 np c8) np (Px.cellsPr PR)) := own_keep ho8.out k89
      clear z3 z6 s34 s4w s67 s78 hga hgc k68 k38 k89 ho3 ho4 ho6 ho7 ho8 hl1k hlc1 HC HPre HPairs HV HX hX7
      go_upto_region 19 with fail
      obtain ⟨q, hq⟩ : ∃ q, Hid (w8.heap.size = q) := ⟨_, rfl⟩
      obtain ⟨w9, hw9⟩ : ∃ V, Hid (w8.alloc (.cells #[.slice (some ⟨ga, 0, none⟩) l c3, .slice (some ⟨gc, 0, none⟩) lc c6] 24) = V) := ⟨_, rfl⟩
      rw [hw9.out] at HD9 HK29 HB49 HL79 HM89 ⊢
      rw [hq.out] at HD9 HS9 ⊢
      go_wp2
      obtain ⟨i0, hi0, hz0, hz1, hz2⟩ := info_parts info_u8
      obtain ⟨bc, hbc⟩ : ∃ b, Hid (wr.heap.size = b) := ⟨_, rfl⟩
      rw [hbc.out] at HD9
      go_loopw [22] (fun i wr => (i = .int .i64 0 ∧ Hid (PhD w9 w2.heap.size bc ga gc q l c3 lc c6 0 wr)) ∨ (i = .int .i64 1 ∧ Hid (PhD w9 w2.heap.size bc ga gc q l c3 lc c6 1 wr)) ∨ (i = .int .i64 2 ∧ Hid (PhD w9 w2.heap.size bc ga gc q l c3 lc c6 2 wr))) (fun i _ => 2 - (intOf i).toNat)
      case atStart => exact .inl ⟨rfl, HD9.out⟩
      case round =>
        clear HD9
        rcases hrel with ⟨rfl, hD⟩ | ⟨rfl, hD⟩ | ⟨rfl, hD⟩
        · go_wp2
          go_loopw [23] (fun j wr => ∃ t : Nat, t ≤ l ∧ j = .int .i64 (t : Int) ∧ Hid (PhD w9 w2.heap.size bc ga gc q l c3 lc c6 0 wr)) (fun j _ => l - (intOf j).toNat)
          case atStart => exact ⟨0, Nat.zero_le _, rfl, hD.out⟩
          case round =>
            obtain ⟨t, ht, rfl, hD2⟩ := hrel
            clear hD
            have t0 : (0 : Int) ≤ (t : Int) := Int.natCast_nonneg _
            have cq := hD2.out.q0
            have hrow := hD2.out.oa rfl
            by_cases htl : t < l
            · have t1 : (t : Int) < (l : Int) := by omega
              obtain ⟨⟨u0, cx⟩, fx⟩ := hrow.cell (j := t) (by omega)
              clear hrow
              go_wp2
              go_roundw
              case rel => exact ⟨t + 1, by omega, by go_num, hD2.out.setA t _⟩
              case measure => simp [intOf]; omega
            · have t1 : ¬ (t : Int) < (l : Int) := by omega
              obtain ⟨xs, hown⟩ := hrow
              have hmx : l + 8 ≤ maxLen := by unfold maxLen; omega
              have hbb : w2.heap.size ≤ wr.heap.size := Nat.le_trans (World.ownsRow.lt hown ga rfl).1 (Nat.le_of_lt (World.ownsRow.lt hown ga rfl).2)
              have HON : Hid ((wr.alloc (.cells #[.int .u8 7, .int .u8 7, .int .u8 7, .int .u8 7, .int .u8 7, .int .u8 7, .int .u8 7, .int .u8 7] 5)).ownsRow w2.heap.size 5 1 (.slice (some ⟨ga, 0, none⟩) l c3) l xs) := own_keep hown (Below.alloc (Bw.refl _) (Nat.le_refl _) _)
              clear hown
              go_wp2_with (at_builtin; refine wpList_append_lies _ (by rfl) (.tmp 118) (.tmp 119) _ (by rfl) w2.heap.size 5 i0 _ 1 1 Tryz.underlying24 hi0 hz0 hz1 hz2 rfl (by omega) _ _ _ (by rfl) HON.out ⟨wr.heap.size, 0, none⟩ 8 8 [_, _, _, _, _, _, _, _] (by rfl) (by rfl) (World.news_of_block (cs := #[_, _, _, _, _, _, _, _]) (t := 5) (fr := (0, 0)) (heap_alloc_new wr _)) (by simp [Value.oneCell']) (by omega) hmx (by omega) (by rw [size_alloc]; omega) _ rfl ?_; intro g6 cap6 w6' hown6 hgrow6 hg6 hl6; obtain ⟨hx6, hq6, -⟩ := hD2.out.grown (.inl rfl) hgrow6; obtain ⟨v0, v1, hqr⟩ := hD2.out.qrow; have c6q := cell_of_row w6' q 0 _ _ _ (hq6.trans hqr); have f6q := frozen_of_row w6' q 0 _ _ (hq6.trans hqr); clear hqr hq6 hown6 hg6)
              go_roundw
              case rel => exact .inr (.inl ⟨rfl, hD2.out.next0 hgrow6 _⟩)
              case measure => simp [intOf]
        · go_wp2
          go_loopw [23] (fun j wr => ∃ t : Nat, t ≤ lc ∧ j = .int .i64 (t : Int) ∧ Hid (PhD w9 w2.heap.size bc ga gc q l c3 lc c6 1 wr)) (fun j _ => lc - (intOf j).toNat)
          case atStart => exact ⟨0, Nat.zero_le _, rfl, hD.out⟩
          case round =>
            obtain ⟨t, ht, rfl, hD2⟩ := hrel
            clear hD
            have t0 : (0 : Int) ≤ (t : Int) := Int.natCast_nonneg _
            have cq := hD2.out.q1
            have hrow := hD2.out.oc (Nat.le_refl _)
            by_cases htl : t < lc
            · have t1 : (t : Int) < (lc : Int) := by omega
              obtain ⟨⟨u0, cx⟩, fx⟩ := hrow.cell (j := t) (by omega)
              clear hrow
              go_wp2
              go_roundw
              case rel => exact ⟨t + 1, by omega, by go_num, hD2.out.setC t _⟩
              case measure => simp [intOf]; omega
            · have t1 : ¬ (t : Int) < (lc : Int) := by omega
              obtain ⟨xs, hown⟩ := hrow
              have hmx : lc + 8 ≤ maxLen := by unfold maxLen; omega
              have hbb : bc ≤ wr.heap.size := Nat.le_trans (World.ownsRow.lt hown gc rfl).1 (Nat.le_of_lt (World.ownsRow.lt hown gc rfl).2)
              have HON : Hid ((wr.alloc (.cells #[.int .u8 7, .int .u8 7, .int .u8 7, .int .u8 7, .int .u8 7, .int .u8 7, .int .u8 7, .int .u8 7] 5)).ownsRow bc 5 1 (.slice (some ⟨gc, 0, none⟩) lc c6) lc xs) := own_keep hown (Below.alloc (Bw.refl _) (Nat.le_refl _) _)
              clear hown
              go_wp2_with (at_builtin; refine wpList_append_lies _ (by rfl) (.tmp 118) (.tmp 119) _ (by rfl) bc 5 i0 _ 1 1 Tryz.underlying24 hi0 hz0 hz1 hz2 rfl (by omega) _ _ _ (by rfl) HON.out ⟨wr.heap.size, 0, none⟩ 8 8 [_, _, _, _, _, _, _, _] (by rfl) (by rfl) (World.news_of_block (cs := #[_, _, _, _, _, _, _, _]) (t := 5) (fr := (0, 0)) (heap_alloc_new wr _)) (by simp [Value.oneCell']) (by omega) hmx (by omega) (by rw [size_alloc]; omega) _ rfl ?_; intro g6 cap6 w6' hown6 hgrow6 hg6 hl6; obtain ⟨hx6, hq6, -⟩ := hD2.out.grown (.inr rfl) hgrow6; obtain ⟨v0, v1, hqr⟩ := hD2.out.qrow; have c6q := cell_of_row w6' q 1 _ _ _ (hq6.trans hqr); have f6q := frozen_of_row w6' q 1 _ _ (hq6.trans hqr); clear hqr hq6 hown6 hg6)
              go_roundw
              case rel => exact .inr (.inr ⟨rfl, hD2.out.next1 hgrow6 _⟩)
              case measure => simp [intOf]
        · have hBx : Bx (S3 ga gc q) w9 wr := hD.out.bx
          have HKD : Hid (Bw w2 wr) := Below.trans HK29.out (hBx.below HK29.out.size (fun b e => by rcases e with e | e | e <;> subst e <;> simp only [HS9.out.1, HS9.out.2.1, HS9.out.2.2.1]))
          have HBD : Hid (wr.ownsRow w3.heap.size 5 1 (.slice A4 l c4) l (Lib.byteCells V)) := own_bx HB49.out hBx (fun b hb e => HS9.out.2.2.2.1 b (HB4.out b hb).1 (HB4.out b hb).2 e)
          have HLD : Hid (∃ xs, wr.ownsRow w6.heap.size 42 2 (.slice A7 np c7) np xs) := ⟨_, own_bx HL79.out hBx (fun b hb e => HS9.out.2.2.2.2 b (HL7.out b hb).1 (by have := (HL7.out b hb).2; have := HZs.out.2.2.1; have := hq.out; omega) e)⟩
          have HMD : Hid (wr.ownsRow w7.heap.size 42 2 (.slice A8 np c8) np (Px.cellsPr PR)) := own_bx HM89.out hBx (fun b hb e => HS9.out.2.2.2.2 b (by have := (HM8.out b hb).1; have := HZs.out.2.2.2; omega) (by have := (HM8.out b hb).2; have := hq.out; omega) e)
          have HwD : Hid (w6.heap.size ≤ wr.heap.size) := by have := hD.out.ql; have := hBx.size; have := hq.out; have := HZs.out; show _ ≤ _; omega
          clear hBx hD HS9 HK29 HB49 HL79 HM89
          obtain ⟨wD, hwD⟩ : ∃ V, Hid (wr = V) := ⟨_, rfl⟩
          rw [hwD.out] at HKD HBD HLD HMD HwD ⊢
          have HAft : Hid (∀ u, Bx (fun b => (Value.slice A7 np c7).ownBlock = some b) wD u → Bw w2 u ∧ RowAt u A4 l (Hd.rowF V) ∧ PrsAt u A8 PR) := fun u x => by
            refine ⟨Below.trans HKD.out (x.below HKD.out.size (fun b e => by have := (HL7.out b e).1; have := HZs.out.1; omega)), ?_, ?_⟩
            · have h1 := own_bx HBD.out x (fun b hb e => by have := (HL7.out b e).1; have := (HB4.out b hb).2; have := HZs.out.2.1; omega)
              rw [← hl.out] at h1 ⊢
              obtain ⟨A', c', e', hr, _⟩ := own_rowx h1
              cases e'
              exact hr
            · have h1 := own_bx HMD.out x (fun b hb e => by have := (HL7.out b e).2; have := (HM8.out b hb).1; omega)
              rw [← hnp.out] at h1
              obtain ⟨A', c', e', _, hr, _⟩ := prs_of_own h1
              cases e'
              exact hr
          go_wp2
          go_loopw [24] (fun i wr => ∃ t : Nat, t ≤ np ∧ i = .int .i64 (t : Int) ∧ Hid ((∃ xs, wr.ownsRow w6.heap.size 42 2 (.slice A7 np c7) np xs) ∧ Bx (fun b => (Value.slice A7 np c7).ownBlock = some b) wD wr)) (fun i _ => np - (intOf i).toNat)
          case atStart => exact ⟨0, Nat.zero_le _, rfl, HLD.out, Bx.refl _ _⟩
          case round =>
            obtain ⟨t, ht, rfl, hE⟩ := hrel
            clear HLD
            have t0 : (0 : Int) ≤ (t : Int) := Int.natCast_nonneg _
            by_cases htl : t < np
            · have t1 : (t : Int) < (np : Int) := by omega
              obtain ⟨xs, hxs⟩ := hE.out.1
              obtain ⟨gl, rfl, hgl⟩ := row_some hxs (by omega)
              have HG : Hid (HasRow wr w6.heap.size 42 2 gl np c7) := hgl
              have hth : wr.there gl (t * 2) 2 := fun j hj => by
                obtain ⟨⟨u0, cx⟩, fx⟩ := HG.out.cell (j := t * 2 + j) (by omega)
                exact ⟨by show (wr.cell? ⟨gl, t * 2 + j, none⟩).isSome = true; rw [cx]; rfl, fx⟩
              clear hxs hgl
              go_wp2_with (first
                | refine wpList_built11 rfl 42 _ rfl _ hbg ?_
                | (refine wpList_store_mid rfl 42 (.tmp 131) (.tmp 130) rfl gl (t * 2) #[.string ⟨#[103, 111, 110, 101]⟩, .string ⟨#[]⟩] (by rfl) rfl hth hpi (by simp [Value.oneCell']) ?_))
              go_roundw
              case rel => exact ⟨t + 1, by omega, by go_num, ((HG.out.set (t * 2) _).set (t * 2 + 1) _), hE.out.2.trans ((Bx.put (S := fun x => x = gl) (Bx.put (S := fun x => x = gl) (Bx.refl (fun x => x = gl) wr) rfl) rfl).more (fun b e => by subst e; rfl))⟩
              case measure => simp [intOf]; omega
            · have t1 : ¬ (t : Int) < (np : Int) := by omega
              obtain ⟨xs, hxs⟩ := hE.out.1
              obtain ⟨j0, hj0, hy0, hy1, hy2⟩ := info_parts info_pair
              have hmx : np + 1 ≤ maxLen := by unfold maxLen; omega
              have hws : w6.heap.size ≤ wr.heap.size := Nat.le_trans HwD.out hE.out.2.size
              have HON : Hid ((wr.alloc (.cells #[.string (Nm.S [109, 111, 114, 101]), .string (Nm.S [])] 42)).ownsRow w6.heap.size 42 2 (.slice A7 np c7) np xs) := own_keep hxs (bw_alloc11 (Bw.refl _) _)
              clear hxs
              go_upto_region 32 with (first
                | refine wpList_built11 rfl 42 _ rfl _ hbm ?_
                | refine wpList_build_pr rfl (.tmp 133) rfl ([109, 111, 114, 101], []) (by rfl) ?_
                | (at_builtin; (refine wpList_append_lies _ (by rfl) (.tmp 132) (.tmp 134) _ (by rfl) w6.heap.size 42 j0 _ 2 32 Tryz.underlying37 hj0 hy0 hy1 hy2 rfl (by omega) _ _ _ (by rfl) HON.out ⟨wr.heap.size, 0, none⟩ 1 1 [_, _] (by rfl) (by rfl) (World.news_of_block (cs := #[_, _]) (t := 42) (fr := (0, 0)) (heap_alloc_new wr _)) (by simp [Value.oneCell']) (by omega) hmx (by omega) (by rw [size_alloc]; omega) _ rfl ?_); intro g9 cap9 wF hown9 hgrow9 hg9 hl9; clear hown9 hg9))
              have xF : Bx (fun b => (Value.slice A7 np c7).ownBlock = some b) wD wF := (hE.out.2.trans (Bx.of_bw (bw_alloc11 (Bw.refl _) _))).trans ⟨hgrow9.os, hgrow9.tape, hgrow9.output, hgrow9.size, fun b hb hn => hgrow9.block b hb (fun e => hn e.symm)⟩
              obtain ⟨hF1, hF2, hF3⟩ := HAft.out wF xF
              have HF1 : Hid (Bw w2 wF) := hF1
              have HF2 : Hid (RowAt wF A4 l (Hd.rowF V)) := hF2
              have HF3 : Hid (PrsAt wF A8 PR) := hF3
              clear xF hF1 hF2 hF3 hgrow9 hE HON
              go_wp2
              go_loop [25] (fun i => ∃ t : Nat, t ≤ np ∧ i = .int .i64 (t : Int)) (fun i => np - (intOf i).toNat)
              case atStart => exact ⟨0, Nat.zero_le _, rfl⟩
              case round =>
                obtain ⟨t, ht, rfl⟩ := hrel
                have t0 : (0 : Int) ≤ (t : Int) := Int.natCast_nonneg _
                by_cases htl : t < np
                · have t1 : (t : Int) < (np : Int) := by omega
                  obtain ⟨p, hp⟩ : ∃ p, Hid (PR[t]? = some p) := ⟨_, List.getElem?_eq_getElem (by rw [hnp.out]; exact htl)⟩
                  have hkey := hPRk.out p (List.mem_of_getElem? hp.out)
                  obtain ⟨gm, om, rfl, cm⟩ : ∃ b off, A8 = some ⟨b, off, none⟩ ∧ wF.cell? ⟨b, off + t * 2, none⟩ = some (.string (Nm.S p.1)) := by
                    rcases HF3.out with h0 | ⟨b, off, e, hc⟩
                    · rw [h0] at hp; have := hp.out; simp at this
                    · exact ⟨b, off, e, (hc t p hp.out).1⟩
                  have hne : Nm.S p.1 ≠ ⟨#[103, 111, 110, 101]⟩ := by
                    rcases hkey with e | e <;> rw [e] <;> decide
                  obtain ⟨K, hK⟩ : ∃ K, Hid (Nm.S p.1 = K) := ⟨_, rfl⟩
                  have hk3 : (K.toList == ([103, 111, 110, 101] : List UInt8)) = false := by
                    rw [← hK.out, Nm.toList_S]
                    rcases hkey with e | e <;> rw [e] <;> decide
                  rw [hK.out] at cm
                  clear hne
                  clear hkey
                  go_wp2
                  go_round
                  case rel => exact ⟨t + 1, by omega, by go_num⟩
                  case measure => simp [intOf]; omega
                · have t1 : ¬ (t : Int) < (np : Int) := by omega
                  have et : t = np := by omega
                  have hbF : Bw W0 wF := hb2.trans HF1.out
                  go_wp2_with (first
                    | (go_at_call 7; refine (HW.out _ g1 c1 M1 hbF he1 (hl1.keep HF1.out)).mono ?_; rintro e wG ⟨A10, c10, rfl, ho10, hwG⟩; have hr10 : RowAt wG A10 l (Hd.rowF V) := (by have h1 := ho10.out; rw [← hl.out] at h1 ⊢; obtain ⟨A', c', e', hr, _⟩ := own_rowx h1; cases e'; exact hr))
                    | (go_at_call 12; refine (HSa.out A4 A10 c4 c10 _ (HF2.out.keep hwG) hr10).mono ?_; rintro e wH ⟨rfl, hwH⟩)
                    | (go_at_call 13; refine (HKept.out wH g1 c1 M1 ((hbF.trans hwG).trans hwH) he1 (((hl1.keep HF1.out).keep hwG).keep hwH)).mono ?_; rintro e wI ⟨rfl, hwI⟩))
                  go_ret
                  exact ⟨rfl, HB0.out.trans (((hbF.trans hwG).trans hwH).trans hwI)⟩

set_option maxRecDepth 100000 in
theorem lifted (os : Os) (started : os.Started) (H : Type) (enc : TypeId × Value → H) :
    ReturnsInHanded {} Tryz.checked os 3 .any (fun w args => (Rows.packOwnSpec.pre enc Tryz.prog Tryz.f3 [] false w args ∧ laidMetH Tryz.prog laidKT w) ∧ sizedMet enc Tryz.prog Tryz.f3 (OpenSpec.ofChange Rows.packOwnSpec) false w args)
      (Rows.packOwnSpec.post enc Tryz.prog Tryz.f3 false true false false) := by
  refine returnsInHanded_of_change_and (C := Tryz.checked) (X := fun w _ => laidMetH Tryz.prog laidKT w) (fun _ _ _ hh h => h.of_heap hh) own started (by kernel_rfl) Tryz.func3
    (ChangeSpec.witness_shaped (enc := enc) (C := Tryz.checked) (os := os) (X := fun w _ => laidMetH Tryz.prog laidKT w) false (World.doorLaid Tryz.prog 400 os) #[.slice none 0 0, .agg #[.string .empty, .int .u8 0, .int .i64 0, .int .i64 0, .slice none 0 0, .string .empty]] 8 rfl (World.shaped_of_RefB (by kernel_rfl) (by kernel_rfl)) (by kernel_rfl) (by kernel_rfl) (by kernel_rfl) (door_metKT os _)) ?_
  intro W base args ds gs before hval0 hW hcnd hsz0 hL _
  have hval : ∀ (j : Nat) t v, Tryz.f3.params[j]? = some t → args[j]? = some v → Value.okWide Tryz.prog W .any base t v := hval0
  have hW' := hW
  obtain ⟨p, q, hA0, hV, rfl, hfz, hnd⟩ := hW
  have hA : DataW.TrodAll enc Tryz.prog W 0 (fun _ => true) true Tryz.f3.params.toList args.toList ds p := hA0
  have hsz : (DataW.weightsEach Tryz.prog (Tryz.f3.params.toList ++ Rows.packOwnSpec.plain.varTypes Tryz.prog) (ds ++ gs)).all (· ≤ reachBytes) = true := hsz0
  have hkat := ktat_of_laid hL
  rw [Tryz.params3] at hA hval hsz
  obtain ⟨v0, vs0, d0, ds0, p0, q0, hargs, rfl, rfl, h0, r0⟩ := trodAll_cons hA
  obtain ⟨v1, vs1, d1, ds1, p1, q1, rfl, rfl, rfl, h1, r1⟩ := trodAll_cons r0
  obtain ⟨rfl, rfl, rfl⟩ := trodAll_nil r1
  obtain rfl : args = #[v0, v1] := by cases args; simp_all
  obtain ⟨rfl, rfl⟩ := trodVars_none hV
  obtain ⟨a0, len0, cap0, rfl⟩ := okWide_slice Tryz.underlying22 (hval 0 22 v0 rfl rfl)
  have k0 := h0
  have lt0 : ∀ x ∈ p0, x.block < W.heap.size := by obtain ⟨m, hm⟩ := k0; exact DataW.trod_lt m _ _ _ hm
  obtain ⟨L0, w0⟩ := open_its h0 (fun x hx => by simpa using List.all_eq_true.1 hsz x (DataW.weights_mem_each (j := 0) (t := 22) rfl rfl x hx))
  have k1 := h1
  have lt1 : ∀ x ∈ p1, x.block < W.heap.size := by obtain ⟨m, hm⟩ := k1; exact DataW.trod_lt m _ _ _ hm
  obtain ⟨y1, rfl, w1⟩ := open_item (hval 1 26 v1 rfl rfl) h1 (fun x hx => by simpa using List.all_eq_true.1 hsz x (DataW.weights_mem_each (j := 1) (t := 26) rfl rfl x hx))
  clear hA0 hval0
  refine (walk a0 len0 cap0 L0 y1 W hkat w0 w1).mono fun e W' ⟨he, bel⟩ => ?_
  subst he
  exact ⟨_, rfl, _, _, _, [], _, [], hW', trodAll_mk1 (shut_bool Tryz.underlying4 _), (trodAll_cons_mk (Below.trod laidOut (by kernel_rfl) (of_decide_eq_true (by kernel_rfl)) k0 bel lt0) (trodAll_cons_mk (Below.trod laidOut (by kernel_rfl) (of_decide_eq_true (by kernel_rfl)) k1 bel lt1) trodAll_mk0)), rfl, bel.frame _, fun h => by cases h⟩

theorem over : Rows.packOwnRow.holds Tryz.pinned (OpenSpec.ofChange Rows.packOwnSpec) :=
  OpenClaim.holds_of_wide 3 Tryz.f3 rfl rfl rfl rfl rfl rfl rfl ⟨rfl, rfl, rfl, rfl, rfl⟩ rfl rfl rfl rfl rfl (by kernel_rfl) Tryz.func3 (by kernel_rfl)
    (of_decide_eq_true (by kernel_rfl)) (by unfold Func.isWrapper; first | (rw [if_pos (by decide +kernel)]; kernel_rfl) | (rw [if_neg (by decide +kernel)]; exact ⟨rfl, rfl⟩))
    (fun os started H enc _ => lifted os started H enc)

theorem proved : Rows.PackOwnCardSaid :=
  Claim7.holds_tied_plain_at .later [] [.data, .data, .data, .data] true (true, "d37f8f044fdd51faec6cd26f2ed6f4dc5dfccb051db4864fbbaf6e428df70fce") true
    over (fun _ h => by cases h) (by kernel_rfl) (fun _ h => by cases h) packOwn_row_tie rfl ⟨rfl, rfl⟩ (by kernel_rfl) rfl
    (fun f fn hf hfn => by
      obtain rfl : f = 3 := Option.some.inj ((show Tryz.prog.funcNamed "tabulary/tabularylaw12.PackOwn" = some 3 by kernel_rfl).symm.trans hf) |>.symm
      obtain rfl : fn = Tryz.f3 := (Option.some.inj (Tryz.func3.symm.trans hfn)).symm
      exact ⟨by kernel_rfl, fun j t ht => by
        rw [Tryz.params3] at ht
        have hm : t ∈ [22, 26] := by simpa using Array.mem_of_getElem? ht
        have hall : ([22, 26].all fun u => !Tryz.prog.wantsStandIn u) = true := by kernel_rfl
        exact (show Tryz.prog.wantsStandIn t = false by simpa using List.all_eq_true.1 hall t hm)⟩)
    (by kernel_rfl)
#print axioms proved
end Go.Proofs.YtldkhbkgmiicbabGreatDoor.packOwn
