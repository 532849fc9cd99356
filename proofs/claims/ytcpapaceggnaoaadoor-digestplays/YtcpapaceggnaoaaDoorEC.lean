/- Contract of the program's own Write: bytes that fill a block; and all of it. -/
import Derived.Test.YtcpapaceggnaoaaDoorEB
namespace Go.Proofs.YtcpapaceggnaoaaDoor
open Go.RowKit Go.Deep
set_option linter.unusedVariables false

set_option maxRecDepth 100000 in
set_option maxHeartbeats 4000000 in
theorem write_great1 (g : Nat) (F : Nat → Int) (len : Nat) (A : Option Addr) (b off L cb : Nat) (f : Nat → Int) (hs64 : 64 ≤ len % 64 + L) (hcb : L ≤ cb) (hcb2 : cb ≤ 9223372036854775807) (hlen : len + L ≤ 1000000000000) (w : World) (hh : HashAt w g F len A) (hr : RowAt w (some ⟨b, off, none⟩) L f) (hk : KAt w)
    (hcm : cb = 64 - len % 64) :
    Calls Tryd.prog 15 #[.pointer (some ⟨g, 0, none⟩), .slice (some ⟨b, off, none⟩) L cb] w fun e w' => e = .returned (.tuple #[]) ∧ WriteSays w g F len A L f w' := by
  obtain ⟨s, hs⟩ : ∃ s, Hid (s = Sha.after (nbD F) (len / 64)) := ⟨_, rfl⟩
  have hsl : ∀ i, s i < 4294967296 := by rw [hs.out]; exact Sha.after_lt _ _
  obtain ⟨n, hn⟩ : ∃ n, Hid (n = len % 64) := ⟨_, rfl⟩
  obtain ⟨m, hm⟩ : ∃ m, Hid (m = 64 - len % 64) := ⟨_, rfl⟩
  obtain ⟨K, hK⟩ : ∃ K, Hid (K = L - m) := ⟨_, rfl⟩
  obtain ⟨C, hC⟩ : ∃ C, Hid (C = cb - m) := ⟨_, rfl⟩
  obtain ⟨k6, hk6⟩ : ∃ k6, Hid (k6 = K % 64) := ⟨_, rfl⟩
  obtain ⟨p, hp⟩ : ∃ p, Hid (p = K - k6) := ⟨_, rfl⟩
  have hA : Hid (n < 64 ∧ n + m = 64 ∧ 0 < m ∧ m ≤ L ∧ m + K = L ∧ m + C = cb ∧ K ≤ C ∧ k6 < 64 ∧ p + k6 = K ∧ p ≤ C ∧ p = 64 * (K / 64)) := by show _ ∧ _; have := hn.out; have := hm.out; have := hK.out; have := hC.out; have := hk6.out; have := hp.out; omega
  have a1 : n < 64 := hA.out.1
  have hnm : n + m = 64 := hA.out.2.1
  have a3 : 0 < m := hA.out.2.2.1
  have a4 : m ≤ L := hA.out.2.2.2.1
  have a7 : K ≤ C := hA.out.2.2.2.2.2.2.1
  have hcm' : m = cb := by have := hm.out; omega
  clear hcm
  have hC0 : 0 = C := by have := hA.out; omega
  have hp0 : 0 = p := by have := hA.out; omega
  have h60 : K = k6 := by have := hA.out; omega
  subst hcm' hC0 hp0 h60
  have hkx0 := hk.lt
  have hH := hh.at_
  have hrow := hh.row
  rw [← hs.out, ← hn.out] at hH
  rw [← hn.out] at hrow
  obtain ⟨l2, hl2⟩ : ∃ l2, Hid (l2 = len + L) := ⟨_, rfl⟩
  have el2 : (len : Int) + (L : Int) = (l2 : Int) := by have := hl2.out; omega
  have c9 := hH.length
  have hH1 : HAt (w.setCell ⟨g, 9, none⟩ (.int .i64 (l2 : Int))) g s A n l2 := hH.setLength l2 rfl
  have hx1 : Bx (· = g) w (w.setCell ⟨g, 9, none⟩ (.int .i64 (l2 : Int))) := (Bx.refl _ _).put rfl
  have c8 := hH.left
  have hap := hH.apart hrow
  have hbg : ¬ b = g := hH.apart hr b off rfl (by omega)
  have hg0 : ¬ (0 : Nat) = g := fun e => by
    have h1 := hk 0 (by decide)
    subst e
    rw [(hH.word 0 (by decide)).1] at h1
    have h2 := hk 8 (by decide)
    rw [hH.left.1] at h2
    cases h2
  have n1 : 64 - (n : Int) = (m : Int) := by omega
  have n2 : (m : Int) ≤ (L : Int) := by omega
  have n3 : (m : Int) ≤ (m : Int) := by omega
  have n4 : (0 : Int) ≤ (m : Int) := Int.natCast_nonneg _
  have n5 : L - m = K := by have := hA.out; omega
  have n6 : m - m = 0 := by have := hA.out; omega
  have n7 : K - 0 = K := by have := hA.out; omega
  have hmin : min (m : Int) (L : Int) = (m : Int) := by omega
  have r1 : (K : Int) % 64 = (K : Int) := by have := hk6.out; omega
  have r2 : (K : Int).tmod 64 = (K : Int) := by rw [Int.tmod_eq_emod_of_nonneg (by omega)]; exact r1
  have r3 : (K : Int) - (K : Int) = (0 : Int) := by have := hA.out; omega
  have r4 : (0 : Int) ≤ (0 : Int) := Int.natCast_nonneg _
  have r5 : (0 : Int) ≤ (0 : Int) := by have := hA.out; omega
  have r6 : (0 : Int) ≤ (K : Int) := by have := hA.out; omega
  go_enter Tryd.func15, Tryd.ntmps15
  go_wp2
  obtain ⟨w1, hw1⟩ : ∃ w1, w1 = w.setCell ⟨g, 9, none⟩ (.int .i64 (l2 : Int)) := ⟨_, rfl⟩
  rw [← hw1] at hH1 hx1 ⊢
  clear hw1 c9 c8
  have c8 := hH1.left
  have hr1 := hr.keepx hx1 (fun b' o' e _ => by cases e; exact hbg)
  have hrow1 := hrow.keepx hx1 hap
  have hk1 := hk.keepx hx1 hg0
  have hgl := hH1.lt
  go_region_held3 (fun w' => w'.cell? ⟨g, 8, none⟩ = some (.slice A n n)) (first | go_keep | exact (hbA.cell (p := ⟨g, 8, none⟩) hgl).trans c8.1) (first | (refine step_append_rows (w := w1.drew) (by rfl) _ _ (by rfl) A n _ (by rfl) hrow1 b off m m f (by rfl) (row_less hr1 a4) a3 (by omega) ?_; intro gb cap w2 hcap hcap2 hgb hownA hbA))
  have hH2 := HAt.keep (w := w1.drew) hH1 hbA
  have hr2 := RowAt.keep (w := w1.drew) hr1 hbA
  have hk2 := KAt.keep (w := w1.drew) hk1 hbA
  have hx2 : Bx (· = g) w w2 := hx1.drew.trans (Bx.of_bw hbA)
  have hbB := hownA.row (fun i => by split; exact hh.bd _; exact hr.2 _)
  obtain ⟨fB, hfB⟩ : ∃ fB, Hid (fB = fun c => if c < n then F (64 * (len / 64) + c) else f (c - n)) := ⟨_, rfl⟩
  rw [hnm, ← hfB.out] at hbB
  rw [hnm] at hcap
  obtain ⟨s2, hs2⟩ : ∃ s2, Hid (s2 = runS s (nbD fB) (64 / 64)) := ⟨_, rfl⟩
  have hs2l : ∀ i, s2 i < 4294967296 := by rw [hs2.out]; exact runS_lt hsl _
  obtain ⟨fm, hfm⟩ : ∃ fm, Hid (fm = fun c => f (m + c)) := ⟨_, rfl⟩
  have hfmb : ∀ i, 0 ≤ fm i ∧ fm i < 256 := by rw [hfm.out]; exact fun i => hr.2 _
  obtain ⟨s3, hs3⟩ : ∃ s3, Hid (s3 = runS s2 (nbD fm) (K / 64)) := ⟨_, rfl⟩
  have hrm : RowAt w2 (some ⟨b, off, none⟩) K fm := ⟨Or.inl (by have := hA.out; omega), hfmb⟩
  have hCm : 0 ≤ maxLen := by have := hA.out; unfold maxLen; omega
  have hra := hH2.range
  clear c8 hownA hr1 hrow1 hk1 hH1
  go_wp2_with (first
    | refine wpList_load_state rfl _ rfl g rfl s hra ?_
    | (go_at_call_of 20 cap; refine (ptaken_any s hsl (some ⟨gb, 0, none⟩) 64 cap fB hcap hcap2 _ hbB hk2).mono ?_; rintro e w3 ⟨rfl, hw3⟩; rw [← hs2.out])
    | (go_at_call_of 20 K; refine (ptaken_any s2 hs2l (some ⟨b, off, none⟩) K 0 fm a7 hCm _ (hrm.keep hw3) (hk2.keep hw3)).mono ?_; rintro e w4 ⟨rfl, hw4⟩; rw [← hs3.out]; have hH4 := hH2.keep (hw3.trans hw4); have hth := hH4.there)
    | (refine wpList_store_state rfl _ _ rfl g s3 rfl rfl hth ?_; have hH5 := hH4.setState s3; have hx5 := setCells_bx g (cells8 s3).toList 0 w4; generalize w4.setCells g 0 (cells8 s3).toList = w5 at hH5 hx5 ⊢; have hr5 := RowAt.keepx (RowAt.keep hr2 (hw3.trans hw4)) hx5 (fun b' o' e _ => by cases e; exact hbg))
    | (go_at_call 21; refine (clone_any (some ⟨b, off, none⟩) K 0 (fun c => f (m + (0 + c))) (by have := hA.out; omega) w5 (⟨Or.inl (by have := hA.out; omega), fun i => hr.2 _⟩) (fun e => by cases e)).mono ?_; rintro e w6 ⟨A', cap6, rfl, hc61, hc62, hr6, hA6, hw6⟩; have hH6 := hH5.keep hw6; have c8 := hH6.left; have i6 : (0 : Int) ≤ (K : Int) := Int.natCast_nonneg _; have i7 : (K : Int) ≤ (cap6 : Int) := (by omega)))
  go_end0
  have hx6 : Bx (· = g) w w6 := ((hx2.trans (Bx.of_bw (hw3.trans hw4))).trans hx5).trans (Bx.of_bw hw6)
  have hx7 : Bx (· = g) w6 (w6.setCell ⟨g, 8, none⟩ (.slice A' K K)) := (Bx.refl _ _).put rfl
  have hsz5 : w.heap.size ≤ w5.heap.size := ((hx2.trans (Bx.of_bw (hw3.trans hw4))).trans hx5).size
  have hgl2 : g < w5.heap.size := Nat.lt_of_lt_of_le hH.lt hsz5
  have hst : s3 = Sha.after (nbD (joinF F len f)) ((len + L) / 64) := by
    have h := state_great (F := F) (f := f) (len := len) (L := L) (by have := hn.out; have := hA.out; omega)
    rw [hs3.out, hs2.out, hs.out, hfB.out, hfm.out, hK.out, hn.out, hm.out]; exact h
  have e6 : (len + L) % 64 = K := by have := hn.out; have := hk6.out; have := hA.out; omega
  refine ⟨rfl, A', ⟨?_, ?_, joinF_bd hh.bd hr.2⟩, Or.inr (fun a e => Nat.le_trans hsz5 (hA6 a e)), hx6.trans hx7⟩
  · rw [← hst, e6, ← hl2.out]
    exact HAt.setLeft hH6 A' K
  · rw [e6]
    refine row_congr (RowAt.keepx hr6 hx7 (fun b' o' e _ => by have h := hA6 _ e; simp only at h; omega)) (fun i hi => ?_) (fun i => joinF_bd hh.bd hr.2 _)
    unfold joinF
    have h1 : 64 * ((len + L) / 64) + i - len = m + (0 + i) := by have := hn.out; have := hm.out; have := hA.out; omega
    rw [if_neg (by have := hn.out; have := hA.out; omega), h1]

set_option maxRecDepth 100000 in
set_option maxHeartbeats 4000000 in
theorem write_great2 (g : Nat) (F : Nat → Int) (len : Nat) (A : Option Addr) (b off L cb : Nat) (f : Nat → Int) (hs64 : 64 ≤ len % 64 + L) (hcb : L ≤ cb) (hcb2 : cb ≤ 9223372036854775807) (hlen : len + L ≤ 1000000000000) (w : World) (hh : HashAt w g F len A) (hr : RowAt w (some ⟨b, off, none⟩) L f) (hk : KAt w)
    (hcm : ¬ cb = 64 - len % 64) (hCp0 : cb = 64 - len % 64 + 64 * ((L - (64 - len % 64)) / 64)) :
    Calls Tryd.prog 15 #[.pointer (some ⟨g, 0, none⟩), .slice (some ⟨b, off, none⟩) L cb] w fun e w' => e = .returned (.tuple #[]) ∧ WriteSays w g F len A L f w' := by
  obtain ⟨s, hs⟩ : ∃ s, Hid (s = Sha.after (nbD F) (len / 64)) := ⟨_, rfl⟩
  have hsl : ∀ i, s i < 4294967296 := by rw [hs.out]; exact Sha.after_lt _ _
  obtain ⟨n, hn⟩ : ∃ n, Hid (n = len % 64) := ⟨_, rfl⟩
  obtain ⟨m, hm⟩ : ∃ m, Hid (m = 64 - len % 64) := ⟨_, rfl⟩
  obtain ⟨K, hK⟩ : ∃ K, Hid (K = L - m) := ⟨_, rfl⟩
  obtain ⟨C, hC⟩ : ∃ C, Hid (C = cb - m) := ⟨_, rfl⟩
  obtain ⟨k6, hk6⟩ : ∃ k6, Hid (k6 = K % 64) := ⟨_, rfl⟩
  obtain ⟨p, hp⟩ : ∃ p, Hid (p = K - k6) := ⟨_, rfl⟩
  have hA : Hid (n < 64 ∧ n + m = 64 ∧ 0 < m ∧ m ≤ L ∧ m + K = L ∧ m + C = cb ∧ K ≤ C ∧ k6 < 64 ∧ p + k6 = K ∧ p ≤ C ∧ p = 64 * (K / 64)) := by show _ ∧ _; have := hn.out; have := hm.out; have := hK.out; have := hC.out; have := hk6.out; have := hp.out; omega
  have a1 : n < 64 := hA.out.1
  have hnm : n + m = 64 := hA.out.2.1
  have a3 : 0 < m := hA.out.2.2.1
  have a4 : m ≤ L := hA.out.2.2.2.1
  have a7 : K ≤ C := hA.out.2.2.2.2.2.2.1
  have hcm' : ¬ cb = m := by have := hm.out; omega
  clear hcm
  have hCp : p = C := by have := hm.out; have := hK.out; have := hA.out; omega
  clear hCp0
  subst hCp
  have hkx0 := hk.lt
  have hH := hh.at_
  have hrow := hh.row
  rw [← hs.out, ← hn.out] at hH
  rw [← hn.out] at hrow
  obtain ⟨l2, hl2⟩ : ∃ l2, Hid (l2 = len + L) := ⟨_, rfl⟩
  have el2 : (len : Int) + (L : Int) = (l2 : Int) := by have := hl2.out; omega
  have c9 := hH.length
  have hH1 : HAt (w.setCell ⟨g, 9, none⟩ (.int .i64 (l2 : Int))) g s A n l2 := hH.setLength l2 rfl
  have hx1 : Bx (· = g) w (w.setCell ⟨g, 9, none⟩ (.int .i64 (l2 : Int))) := (Bx.refl _ _).put rfl
  have c8 := hH.left
  have hap := hH.apart hrow
  have hbg : ¬ b = g := hH.apart hr b off rfl (by omega)
  have hg0 : ¬ (0 : Nat) = g := fun e => by
    have h1 := hk 0 (by decide)
    subst e
    rw [(hH.word 0 (by decide)).1] at h1
    have h2 := hk 8 (by decide)
    rw [hH.left.1] at h2
    cases h2
  have n1 : 64 - (n : Int) = (m : Int) := by omega
  have n2 : (m : Int) ≤ (L : Int) := by omega
  have n3 : (m : Int) ≤ (cb : Int) := by omega
  have n4 : (0 : Int) ≤ (m : Int) := Int.natCast_nonneg _
  have n5 : L - m = K := by have := hA.out; omega
  have n6 : cb - m = p := by have := hA.out; omega
  have n7 : K - p = k6 := by have := hA.out; omega
  have hmin : min (m : Int) (L : Int) = (m : Int) := by omega
  have r1 : (K : Int) % 64 = (k6 : Int) := by have := hk6.out; omega
  have r2 : (K : Int).tmod 64 = (k6 : Int) := by rw [Int.tmod_eq_emod_of_nonneg (by omega)]; exact r1
  have r3 : (K : Int) - (k6 : Int) = (p : Int) := by have := hA.out; omega
  have r4 : (0 : Int) ≤ (p : Int) := Int.natCast_nonneg _
  have r5 : (p : Int) ≤ (p : Int) := by have := hA.out; omega
  have r6 : (p : Int) ≤ (K : Int) := by have := hA.out; omega
  go_enter Tryd.func15, Tryd.ntmps15
  go_wp2
  obtain ⟨w1, hw1⟩ : ∃ w1, w1 = w.setCell ⟨g, 9, none⟩ (.int .i64 (l2 : Int)) := ⟨_, rfl⟩
  rw [← hw1] at hH1 hx1 ⊢
  clear hw1 c9 c8
  have c8 := hH1.left
  have hr1 := hr.keepx hx1 (fun b' o' e _ => by cases e; exact hbg)
  have hrow1 := hrow.keepx hx1 hap
  have hk1 := hk.keepx hx1 hg0
  have hgl := hH1.lt
  go_region_held3 (fun w' => w'.cell? ⟨g, 8, none⟩ = some (.slice A n n)) (first | go_keep | exact (hbA.cell (p := ⟨g, 8, none⟩) hgl).trans c8.1) (first | (refine step_append_rows (w := w1.drew) (by rfl) _ _ (by rfl) A n _ (by rfl) hrow1 b off m cb f (by rfl) (row_less hr1 a4) a3 (by omega) ?_; intro gb cap w2 hcap hcap2 hgb hownA hbA))
  have hH2 := HAt.keep (w := w1.drew) hH1 hbA
  have hr2 := RowAt.keep (w := w1.drew) hr1 hbA
  have hk2 := KAt.keep (w := w1.drew) hk1 hbA
  have hx2 : Bx (· = g) w w2 := hx1.drew.trans (Bx.of_bw hbA)
  have hbB := hownA.row (fun i => by split; exact hh.bd _; exact hr.2 _)
  obtain ⟨fB, hfB⟩ : ∃ fB, Hid (fB = fun c => if c < n then F (64 * (len / 64) + c) else f (c - n)) := ⟨_, rfl⟩
  rw [hnm, ← hfB.out] at hbB
  rw [hnm] at hcap
  obtain ⟨s2, hs2⟩ : ∃ s2, Hid (s2 = runS s (nbD fB) (64 / 64)) := ⟨_, rfl⟩
  have hs2l : ∀ i, s2 i < 4294967296 := by rw [hs2.out]; exact runS_lt hsl _
  obtain ⟨fm, hfm⟩ : ∃ fm, Hid (fm = fun c => f (m + c)) := ⟨_, rfl⟩
  have hfmb : ∀ i, 0 ≤ fm i ∧ fm i < 256 := by rw [hfm.out]; exact fun i => hr.2 _
  obtain ⟨s3, hs3⟩ : ∃ s3, Hid (s3 = runS s2 (nbD fm) (K / 64)) := ⟨_, rfl⟩
  have hrm : RowAt w2 (some ⟨b, off + m, none⟩) K fm := (by rw [hfm.out, hK.out]; exact row_rest hr2 m a4)
  have hCm : p ≤ maxLen := by have := hA.out; unfold maxLen; omega
  have hra := hH2.range
  clear c8 hownA hr1 hrow1 hk1 hH1
  go_wp2_with (first
    | refine wpList_load_state rfl _ rfl g rfl s hra ?_
    | (go_at_call_of 20 cap; refine (ptaken_any s hsl (some ⟨gb, 0, none⟩) 64 cap fB hcap hcap2 _ hbB hk2).mono ?_; rintro e w3 ⟨rfl, hw3⟩; rw [← hs2.out])
    | (go_at_call_of 20 K; refine (ptaken_any s2 hs2l (some ⟨b, off + m, none⟩) K p fm a7 hCm _ (hrm.keep hw3) (hk2.keep hw3)).mono ?_; rintro e w4 ⟨rfl, hw4⟩; rw [← hs3.out]; have hH4 := hH2.keep (hw3.trans hw4); have hth := hH4.there)
    | (refine wpList_store_state rfl _ _ rfl g s3 rfl rfl hth ?_; have hH5 := hH4.setState s3; have hx5 := setCells_bx g (cells8 s3).toList 0 w4; generalize w4.setCells g 0 (cells8 s3).toList = w5 at hH5 hx5 ⊢; have hr5 := RowAt.keepx (RowAt.keep hr2 (hw3.trans hw4)) hx5 (fun b' o' e _ => by cases e; exact hbg))
    | (go_at_call 21; refine (clone_any (some ⟨b, off + m, none⟩) k6 0 (fun c => f (m + (p + c))) (by have := hA.out; omega) w5 (⟨Or.inl (by have := hA.out; omega), fun i => hr.2 _⟩) (fun e => by cases e)).mono ?_; rintro e w6 ⟨A', cap6, rfl, hc61, hc62, hr6, hA6, hw6⟩; have hH6 := hH5.keep hw6; have c8 := hH6.left; have i6 : (0 : Int) ≤ (k6 : Int) := Int.natCast_nonneg _; have i7 : (k6 : Int) ≤ (cap6 : Int) := (by omega)))
  go_end0
  have hx6 : Bx (· = g) w w6 := ((hx2.trans (Bx.of_bw (hw3.trans hw4))).trans hx5).trans (Bx.of_bw hw6)
  have hx7 : Bx (· = g) w6 (w6.setCell ⟨g, 8, none⟩ (.slice A' k6 k6)) := (Bx.refl _ _).put rfl
  have hsz5 : w.heap.size ≤ w5.heap.size := ((hx2.trans (Bx.of_bw (hw3.trans hw4))).trans hx5).size
  have hgl2 : g < w5.heap.size := Nat.lt_of_lt_of_le hH.lt hsz5
  have hst : s3 = Sha.after (nbD (joinF F len f)) ((len + L) / 64) := by
    have h := state_great (F := F) (f := f) (len := len) (L := L) (by have := hn.out; have := hA.out; omega)
    rw [hs3.out, hs2.out, hs.out, hfB.out, hfm.out, hK.out, hn.out, hm.out]; exact h
  have e6 : (len + L) % 64 = k6 := by have := hn.out; have := hk6.out; have := hA.out; omega
  refine ⟨rfl, A', ⟨?_, ?_, joinF_bd hh.bd hr.2⟩, Or.inr (fun a e => Nat.le_trans hsz5 (hA6 a e)), hx6.trans hx7⟩
  · rw [← hst, e6, ← hl2.out]
    exact HAt.setLeft hH6 A' k6
  · rw [e6]
    refine row_congr (RowAt.keepx hr6 hx7 (fun b' o' e _ => by have h := hA6 _ e; simp only at h; omega)) (fun i hi => ?_) (fun i => joinF_bd hh.bd hr.2 _)
    unfold joinF
    have h1 : 64 * ((len + L) / 64) + i - len = m + (p + i) := by have := hn.out; have := hm.out; have := hA.out; omega
    rw [if_neg (by have := hn.out; have := hA.out; omega), h1]

set_option maxRecDepth 100000 in
set_option maxHeartbeats 4000000 in
theorem write_great3 (g : Nat) (F : Nat → Int) (len : Nat) (A : Option Addr) (b off L cb : Nat) (f : Nat → Int) (hs64 : 64 ≤ len % 64 + L) (hcb : L ≤ cb) (hcb2 : cb ≤ 9223372036854775807) (hlen : len + L ≤ 1000000000000) (w : World) (hh : HashAt w g F len A) (hr : RowAt w (some ⟨b, off, none⟩) L f) (hk : KAt w)
    (hcm : ¬ cb = 64 - len % 64) (hCp0 : ¬ cb = 64 - len % 64 + 64 * ((L - (64 - len % 64)) / 64)) :
    Calls Tryd.prog 15 #[.pointer (some ⟨g, 0, none⟩), .slice (some ⟨b, off, none⟩) L cb] w fun e w' => e = .returned (.tuple #[]) ∧ WriteSays w g F len A L f w' := by
  obtain ⟨s, hs⟩ : ∃ s, Hid (s = Sha.after (nbD F) (len / 64)) := ⟨_, rfl⟩
  have hsl : ∀ i, s i < 4294967296 := by rw [hs.out]; exact Sha.after_lt _ _
  obtain ⟨n, hn⟩ : ∃ n, Hid (n = len % 64) := ⟨_, rfl⟩
  obtain ⟨m, hm⟩ : ∃ m, Hid (m = 64 - len % 64) := ⟨_, rfl⟩
  obtain ⟨K, hK⟩ : ∃ K, Hid (K = L - m) := ⟨_, rfl⟩
  obtain ⟨C, hC⟩ : ∃ C, Hid (C = cb - m) := ⟨_, rfl⟩
  obtain ⟨k6, hk6⟩ : ∃ k6, Hid (k6 = K % 64) := ⟨_, rfl⟩
  obtain ⟨p, hp⟩ : ∃ p, Hid (p = K - k6) := ⟨_, rfl⟩
  have hA : Hid (n < 64 ∧ n + m = 64 ∧ 0 < m ∧ m ≤ L ∧ m + K = L ∧ m + C = cb ∧ K ≤ C ∧ k6 < 64 ∧ p + k6 = K ∧ p ≤ C ∧ p = 64 * (K / 64)) := by show _ ∧ _; have := hn.out; have := hm.out; have := hK.out; have := hC.out; have := hk6.out; have := hp.out; omega
  have a1 : n < 64 := hA.out.1
  have hnm : n + m = 64 := hA.out.2.1
  have a3 : 0 < m := hA.out.2.2.1
  have a4 : m ≤ L := hA.out.2.2.2.1
  have a7 : K ≤ C := hA.out.2.2.2.2.2.2.1
  have hcm' : ¬ cb = m := by have := hm.out; omega
  clear hcm
  have hCp : ¬ C = p := by have := hm.out; have := hK.out; have := hA.out; omega
  clear hCp0
  have hkx0 := hk.lt
  have hH := hh.at_
  have hrow := hh.row
  rw [← hs.out, ← hn.out] at hH
  rw [← hn.out] at hrow
  obtain ⟨l2, hl2⟩ : ∃ l2, Hid (l2 = len + L) := ⟨_, rfl⟩
  have el2 : (len : Int) + (L : Int) = (l2 : Int) := by have := hl2.out; omega
  have c9 := hH.length
  have hH1 : HAt (w.setCell ⟨g, 9, none⟩ (.int .i64 (l2 : Int))) g s A n l2 := hH.setLength l2 rfl
  have hx1 : Bx (· = g) w (w.setCell ⟨g, 9, none⟩ (.int .i64 (l2 : Int))) := (Bx.refl _ _).put rfl
  have c8 := hH.left
  have hap := hH.apart hrow
  have hbg : ¬ b = g := hH.apart hr b off rfl (by omega)
  have hg0 : ¬ (0 : Nat) = g := fun e => by
    have h1 := hk 0 (by decide)
    subst e
    rw [(hH.word 0 (by decide)).1] at h1
    have h2 := hk 8 (by decide)
    rw [hH.left.1] at h2
    cases h2
  have n1 : 64 - (n : Int) = (m : Int) := by omega
  have n2 : (m : Int) ≤ (L : Int) := by omega
  have n3 : (m : Int) ≤ (cb : Int) := by omega
  have n4 : (0 : Int) ≤ (m : Int) := Int.natCast_nonneg _
  have n5 : L - m = K := by have := hA.out; omega
  have n6 : cb - m = C := by have := hA.out; omega
  have n7 : K - p = k6 := by have := hA.out; omega
  have hmin : min (m : Int) (L : Int) = (m : Int) := by omega
  have r1 : (K : Int) % 64 = (k6 : Int) := by have := hk6.out; omega
  have r2 : (K : Int).tmod 64 = (k6 : Int) := by rw [Int.tmod_eq_emod_of_nonneg (by omega)]; exact r1
  have r3 : (K : Int) - (k6 : Int) = (p : Int) := by have := hA.out; omega
  have r4 : (0 : Int) ≤ (p : Int) := Int.natCast_nonneg _
  have r5 : (p : Int) ≤ (C : Int) := by have := hA.out; omega
  have r6 : (p : Int) ≤ (K : Int) := by have := hA.out; omega
  go_enter Tryd.func15, Tryd.ntmps15
  go_wp2
  obtain ⟨w1, hw1⟩ : ∃ w1, w1 = w.setCell ⟨g, 9, none⟩ (.int .i64 (l2 : Int)) := ⟨_, rfl⟩
  rw [← hw1] at hH1 hx1 ⊢
  clear hw1 c9 c8
  have c8 := hH1.left
  have hr1 := hr.keepx hx1 (fun b' o' e _ => by cases e; exact hbg)
  have hrow1 := hrow.keepx hx1 hap
  have hk1 := hk.keepx hx1 hg0
  have hgl := hH1.lt
  go_region_held3 (fun w' => w'.cell? ⟨g, 8, none⟩ = some (.slice A n n)) (first | go_keep | exact (hbA.cell (p := ⟨g, 8, none⟩) hgl).trans c8.1) (first | (refine step_append_rows (w := w1.drew) (by rfl) _ _ (by rfl) A n _ (by rfl) hrow1 b off m cb f (by rfl) (row_less hr1 a4) a3 (by omega) ?_; intro gb cap w2 hcap hcap2 hgb hownA hbA))
  have hH2 := HAt.keep (w := w1.drew) hH1 hbA
  have hr2 := RowAt.keep (w := w1.drew) hr1 hbA
  have hk2 := KAt.keep (w := w1.drew) hk1 hbA
  have hx2 : Bx (· = g) w w2 := hx1.drew.trans (Bx.of_bw hbA)
  have hbB := hownA.row (fun i => by split; exact hh.bd _; exact hr.2 _)
  obtain ⟨fB, hfB⟩ : ∃ fB, Hid (fB = fun c => if c < n then F (64 * (len / 64) + c) else f (c - n)) := ⟨_, rfl⟩
  rw [hnm, ← hfB.out] at hbB
  rw [hnm] at hcap
  obtain ⟨s2, hs2⟩ : ∃ s2, Hid (s2 = runS s (nbD fB) (64 / 64)) := ⟨_, rfl⟩
  have hs2l : ∀ i, s2 i < 4294967296 := by rw [hs2.out]; exact runS_lt hsl _
  obtain ⟨fm, hfm⟩ : ∃ fm, Hid (fm = fun c => f (m + c)) := ⟨_, rfl⟩
  have hfmb : ∀ i, 0 ≤ fm i ∧ fm i < 256 := by rw [hfm.out]; exact fun i => hr.2 _
  obtain ⟨s3, hs3⟩ : ∃ s3, Hid (s3 = runS s2 (nbD fm) (K / 64)) := ⟨_, rfl⟩
  have hrm : RowAt w2 (some ⟨b, off + m, none⟩) K fm := (by rw [hfm.out, hK.out]; exact row_rest hr2 m a4)
  have hCm : C ≤ maxLen := by have := hA.out; unfold maxLen; omega
  have hra := hH2.range
  clear c8 hownA hr1 hrow1 hk1 hH1
  go_wp2_with (first
    | refine wpList_load_state rfl _ rfl g rfl s hra ?_
    | (go_at_call_of 20 cap; refine (ptaken_any s hsl (some ⟨gb, 0, none⟩) 64 cap fB hcap hcap2 _ hbB hk2).mono ?_; rintro e w3 ⟨rfl, hw3⟩; rw [← hs2.out])
    | (go_at_call_of 20 K; refine (ptaken_any s2 hs2l (some ⟨b, off + m, none⟩) K C fm a7 hCm _ (hrm.keep hw3) (hk2.keep hw3)).mono ?_; rintro e w4 ⟨rfl, hw4⟩; rw [← hs3.out]; have hH4 := hH2.keep (hw3.trans hw4); have hth := hH4.there)
    | (refine wpList_store_state rfl _ _ rfl g s3 rfl rfl hth ?_; have hH5 := hH4.setState s3; have hx5 := setCells_bx g (cells8 s3).toList 0 w4; generalize w4.setCells g 0 (cells8 s3).toList = w5 at hH5 hx5 ⊢; have hr5 := RowAt.keepx (RowAt.keep hr2 (hw3.trans hw4)) hx5 (fun b' o' e _ => by cases e; exact hbg))
    | (go_at_call 21; refine (clone_any (some ⟨b, off + m + p, none⟩) k6 (C - p) (fun c => f (m + (p + c))) (by have := hA.out; omega) w5 ((by have h := row_rest hr5 (m + p) (by have := hA.out; omega); rw [show L - (m + p) = k6 by have := hA.out; omega, show (some (⟨b, off, none⟩ : Addr)).map (fun x => (⟨x.block, x.off + (m + p), none⟩ : Addr)) = some ⟨b, off + m + p, none⟩ by simp [Nat.add_assoc]] at h; exact row_congr h (fun i _ => by rw [Nat.add_assoc]) (fun i => hr.2 _))) (fun e => by cases e)).mono ?_; rintro e w6 ⟨A', cap6, rfl, hc61, hc62, hr6, hA6, hw6⟩; have hH6 := hH5.keep hw6; have c8 := hH6.left; have i6 : (0 : Int) ≤ (k6 : Int) := Int.natCast_nonneg _; have i7 : (k6 : Int) ≤ (cap6 : Int) := (by omega)))
  go_end0
  have hx6 : Bx (· = g) w w6 := ((hx2.trans (Bx.of_bw (hw3.trans hw4))).trans hx5).trans (Bx.of_bw hw6)
  have hx7 : Bx (· = g) w6 (w6.setCell ⟨g, 8, none⟩ (.slice A' k6 k6)) := (Bx.refl _ _).put rfl
  have hsz5 : w.heap.size ≤ w5.heap.size := ((hx2.trans (Bx.of_bw (hw3.trans hw4))).trans hx5).size
  have hgl2 : g < w5.heap.size := Nat.lt_of_lt_of_le hH.lt hsz5
  have hst : s3 = Sha.after (nbD (joinF F len f)) ((len + L) / 64) := by
    have h := state_great (F := F) (f := f) (len := len) (L := L) (by have := hn.out; have := hA.out; omega)
    rw [hs3.out, hs2.out, hs.out, hfB.out, hfm.out, hK.out, hn.out, hm.out]; exact h
  have e6 : (len + L) % 64 = k6 := by have := hn.out; have := hk6.out; have := hA.out; omega
  refine ⟨rfl, A', ⟨?_, ?_, joinF_bd hh.bd hr.2⟩, Or.inr (fun a e => Nat.le_trans hsz5 (hA6 a e)), hx6.trans hx7⟩
  · rw [← hst, e6, ← hl2.out]
    exact HAt.setLeft hH6 A' k6
  · rw [e6]
    refine row_congr (RowAt.keepx hr6 hx7 (fun b' o' e _ => by have h := hA6 _ e; simp only at h; omega)) (fun i hi => ?_) (fun i => joinF_bd hh.bd hr.2 _)
    unfold joinF
    have h1 : 64 * ((len + L) / 64) + i - len = m + (p + i) := by have := hn.out; have := hm.out; have := hA.out; omega
    rw [if_neg (by have := hn.out; have := hA.out; omega), h1]

theorem write_any (g : Nat) (F : Nat → Int) (len : Nat) (A B : Option Addr) (L cb : Nat) (f : Nat → Int) (hcb : L ≤ cb) (hcb2 : cb ≤ 9223372036854775807) (hlen : len + L ≤ 1000000000000) (w : World) (hh : HashAt w g F len A) (hr : RowAt w B L f) (hk : KAt w) :
    Calls Tryd.prog 15 #[.pointer (some ⟨g, 0, none⟩), .slice B L cb] w fun e w' => e = .returned (.tuple #[]) ∧ WriteSays w g F len A L f w' := by
  by_cases h0 : L = 0
  · subst h0
    exact write_none g F len A B cb f hr.2 (by omega) w hh
  · by_cases h1 : len % 64 + L < 64
    · exact write_small g F len A B L cb f (by omega) h1 hcb (by omega) w hh hr
    · obtain ⟨b, off, rfl, -⟩ := hr.at (k := 0) (by omega)
      by_cases h2 : cb = 64 - len % 64
      · exact write_great1 g F len A b off L cb f (by omega) hcb hcb2 hlen w hh hr hk h2
      · by_cases h3 : cb = 64 - len % 64 + 64 * ((L - (64 - len % 64)) / 64)
        · exact write_great2 g F len A b off L cb f (by omega) hcb hcb2 hlen w hh hr hk h2 h3
        · exact write_great3 g F len A b off L cb f (by omega) hcb hcb2 hlen w hh hr hk h2 h3
theorem write_nil (V : Value) (w : World) :
    Calls Tryd.prog 15 #[.pointer none, V] w fun e w' => e = .returned (.tuple #[]) ∧ w' = w := by
  go_enter Tryd.func15, Tryd.ntmps15
  go_wp2
  refine bodyPost_ret (results_none rfl _ _ _) rfl ?_
  exact ⟨rfl, rfl⟩
end Go.Proofs.YtcpapaceggnaoaaDoor
