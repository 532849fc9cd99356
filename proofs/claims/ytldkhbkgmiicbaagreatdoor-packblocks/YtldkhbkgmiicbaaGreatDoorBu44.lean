/- Texts of mine, put together. -/
import Derived.Test.YtldkhbkgmiicbaaGreatDoorBu41
import Derived.Test.YtldkhbkgmiicbaaGreatDoorBu5

/- Layer 12: the program's own Blocks, as landed at 16cf8173: an iterator over a volume. -/
namespace Go.Proofs.YtldkhbkgmiicbaaGreatDoor
open Go.RowKit Go.Deep
set_option linter.unusedVariables false
set_option linter.unusedSimpArgs false

theorem fun_type12 : isFunc (Tryz.prog.underlying 36) = true := by kernel_rfl
theorem equalIn_func12 (u : World) (d : Nat) (f : Nat) (c l : Array Value) : (Op.equalIn (d + 1) 36 (.func (.func f) c l) .nilFunc).run Tryz.prog u = .ok false u := by
  obtain ⟨x, y, z, h⟩ := isFunc_of fun_type12
  simp [Op.equalIn, run_underlying h]
theorem eq_nilFunc12 (f : Nat) (c l : Array Value) (u : World) : (binOp .eql 36 (.func (.func f) c l) .nilFunc).run Tryz.prog u = .ok (.bool false) u := by
  have h : (Op.equal 36 (.func (.func f) c l) .nilFunc).run Tryz.prog u = .ok false u := equalIn_func12 u 9999 f c l
  simp only [binOp]
  simp [h]
/-- the piece of a volume at a place -/
def Pk.pce (V : Pk.B) (k : Nat) : Pk.B := (V.drop (512 * k)).take 512
/-- what an iterator tells at each yield: a block of its own with that piece -/
def PieceAt (n0 : Nat) (V : Pk.B) (nb : Nat) (pre : List Nat) (x : Nat) (U : World) : Prop := n0 ≤ x ∧ BrkAt U x (Pk.pce V pre.length) ∧ pre.length < nb
/-- an iterator over the nb pieces of a volume -/
structure IterAt (w : World) (gf : Nat) (lb : Array Value) (V : Pk.B) (nb : Nat) : Prop where
  len : V.length = 512 * nb
  enters : ∀ args u, (callFunc gf args).run Tryz.prog u = .ok (.enter gf args) u
  seq : ∀ W, Below w.heap.size w W → SeqAt Fence.wide 9 Tryz.prog gf lb (fun x : Nat => #[.slice (some ⟨x, 0, none⟩) 512 512]) (fun A B => Below w.heap.size A B) (PieceAt W.heap.size V nb) (fun xs => xs.length = nb) (fun pre => pre.length ≤ nb) W
theorem seqat_mono {α : Type} {F : Fence} {n : Nat} {P : Program} {g : Nat} {lb : Array Value} {encs : α → Array Value} {Kp Kq : World → World → Prop} {At : List α → α → World → Prop} {S Sp : List α → Prop} {w : World} (h : SeqAt F n P g lb encs Kp At S Sp w) (hk : ∀ A B, Kq A B → Kp A B) : SeqAt F n P g lb encs Kq At S Sp w :=
  fun l J Jx W h1 h2 h3 h4 h5 => h l J Jx W h1 h2 h3 (fun pre x W1 hJ hA => by
    obtain ⟨fn, tmps, asg, bd, hy, hr⟩ := h4 pre x W1 hJ hA
    exact ⟨fn, tmps, asg, bd, hy, hr.mono fun e W' h => h.imp (fun h => ⟨h.1, h.2.1, hk _ _ h.2.2⟩) id⟩) h5
theorem iter_vol {w : World} {gb g base : Nat} {v : Value} {R : Pk.B} (hR : R.length + 1024 ≤ 131072) (h : VolAt w gb g base v R) : IterAt w 56 #[.pointer (some ⟨gb, 0, none⟩)] (R ++ List.replicate 1024 0) (R.length / 512 + 2) := by
  refine ⟨?_, enters_of Tryz.func56 (by kernel_rfl) rfl, fun W hW => ?_⟩
  · have := h.own.1
    rw [List.length_append, List.length_replicate]; omega
  · refine seqat_mono (vol_seq 9 (by omega) gb g base v R (by omega) W (h.keep hW)) fun A B hk => ⟨hk.size, hk.block gb (Array.getElem?_eq_some_iff.1 h.box).1, hk.block g h.roll.lt, fun k e => hk.block k (World.ownsRow.lt h.own.2 k e).2⟩
theorem iter_none (w : World) : IterAt w 32 #[] [] 0 := by
  refine ⟨rfl, enters_of Tryz.func32 (by kernel_rfl) rfl, fun W hW => ?_⟩
  intro l J Jx U h1 h2 h3 h4 h5
  refine callsIn_of_wp Tryz.func32 rfl trivial ?_ rfl
  simp only [Tryz.ntmps32, List.size_toArray, List.length_cons, List.length_nil, Nat.reduceAdd, Nat.reduceSub, Array.replicate_succ, Array.replicate_zero, List.push_toArray, List.append_toArray, List.nil_append, List.cons_append]
  gi_wp2
  go_end0
  exact ⟨⟨_, rfl⟩, .inl h5⟩
theorem IterAt.keep {w w' : World} {gf : Nat} {lb : Array Value} {V : Pk.B} {nb : Nat} (h : IterAt w gf lb V nb) (hb : Bw w w') : IterAt w' gf lb V nb :=
  ⟨h.len, h.enters, fun W hW => seqat_mono (h.seq W (Below.trans hb (hW.mono hb.size))) fun A B hk => hk.mono hb.size⟩
/-- what Blocks answers -/
def BlkEnds (t : List Tr.It) (e : Ending) (w' : World) : Prop := ∃ gf lb nb, e = .returned (.func (.func gf) #[] lb) ∧ IterAt w' gf lb (Pk.wr t).1 nb
set_option maxRecDepth 100000 in
set_option maxHeartbeats 2000000 in
theorem blocks_any (A : Option Addr) (cap : Nat) (L : List Tr.Iv) (hn : L.length ≤ 4611686018427387904) (hcap : L.length ≤ cap) (w : World) (ha : ItsAt w A L) (hk : KTAt w) :
    Calls Tryz.prog 14 #[.slice A L.length cap] w fun e w' => BlkEnds (Tr.its L) e w' ∧ Bw w w' := by
  obtain ⟨n, hnn⟩ : ∃ n, Hid (L.length = n) := ⟨_, rfl⟩
  have HW0 : Hid (∀ u, Bw w u → Calls Tryz.prog 28 #[.slice A n cap] u fun e w' => WrEnds (Tr.its L) u.heap.size e w' ∧ Bw u w') := fun u hu => by
    have := written_any A cap L hn hcap u (ha.keep hu) (hk.keep hu)
    rwa [hnn.out] at this
  rw [hnn.out] at hn hcap ⊢
  clear ha hk
  have hz := zero_roll
  obtain ⟨wb, wi, we, hwr⟩ : ∃ a b c, Hid (Pk.wr (Tr.its L) = (a, b, c)) := ⟨_, _, _, show Pk.wr (Tr.its L) = _ from rfl⟩
  by_cases h0 : we = 0
  · have HW : Hid (∀ u, Bw w u → Calls Tryz.prog 28 #[.slice A n cap] u fun e w' => (∃ A0 m0 c0, e = .returned (.tuple #[.agg #[.slice A0 m0 c0, .int .i64 ((Pk.flat (Tr.its L)).length : Int)], .int .i64 0, .int .i64 0]) ∧ RollOwn w' u.heap.size (.slice A0 m0 c0) (Pk.flat (Tr.its L))) ∧ Bw u w') := fun u hu => (HW0.out u hu).mono fun e w' ⟨h, hb⟩ => by
      rcases h with ⟨h1, _⟩ | ⟨_, _, _, h4⟩
      · rw [hwr.out] at h1; exact absurd h0 h1
      · exact ⟨h4, hb⟩
    have hw3 : Pk.wr (Tr.its L) = (Pk.flat (Tr.its L) ++ List.replicate 1024 0, 0, 0) ∧ (Pk.flat (Tr.its L)).length + 1024 ≤ 131072 := by
      rcases Pk.wr_cases (Tr.its L) with ⟨h1, e⟩ | ⟨_, i, _, e⟩ | ⟨_, g, e⟩
      · rw [e] at hwr; have := hwr.out; cases this; exact absurd h0 h1
      · rw [e] at hwr; have := hwr.out; cases this; cases h0
      · exact ⟨e, by have := g.2.2; rwa [List.take_length] at this⟩
    obtain ⟨F, hF⟩ : ∃ F : Pk.B, Hid (Pk.flat (Tr.its L) = F) := ⟨_, rfl⟩
    rw [hF.out] at HW hw3
    have hFl := hw3.2
    have HWR : Hid (Pk.wr (Tr.its L) = (F ++ List.replicate 1024 0, 0, 0)) := hw3.1
    clear hw3 h0 HW0
    go_enter Tryz.func14, Tryz.ntmps14
    go_wp2_with (first
      | (go_at_call 28; refine (HW.out _ (Bw.refl _)).mono ?_; rintro e w1 ⟨⟨A0, m0, c0, rfl, ho1⟩, hw1⟩)
      | (refine wpList_store_row rfl 69 _ _ rfl w1.heap.size #[.slice A0 m0 c0, .int .i64 (F.length : Int)] rfl rfl 69 _ (heap_alloc_new _ _) (info_roll _ _) rfl (roll_one _ _ _ _) ?_; rw [setRow_alloc_new]; obtain ⟨w2, hw2⟩ : ∃ V, V = w1.alloc (.cells #[.slice A0 m0 c0, .int .i64 (F.length : Int)] 69) := ⟨_, rfl⟩; have hb2 : Bw w1 w2 := (by rw [hw2]; exact bw_alloc7 (Bw.refl _) _); have hA2 : w2.heap[w1.heap.size]? = some (.cells #[.slice A0 m0 c0, .int .i64 (F.length : Int)] 69 (0, 0)) := (by rw [hw2]; exact heap_alloc_new _ _); rw [← hw2]; clear hw2)
      | (go_at_call 33; refine (volume_any w1.heap.size _).mono ?_; rintro e w3 ⟨rfl, hw3⟩; have HW3 : Hid (w3 = _) := hw3; clear hw3))
    go_ret
    have hw3 := HW3.out
    have hb3 : Bw w2 w3 := by rw [hw3]; exact bw_alloc7 (Bw.refl _) _
    have hbx : w3.heap[w2.heap.size]? = some (.cells #[.pointer (some ⟨w1.heap.size, 0, none⟩)] 91 (0, 0)) := by rw [hw3]; exact heap_alloc_new _ _
    refine ⟨⟨_, _, F.length / 512 + 2, rfl, ?_⟩, (hw1.trans hb2).trans hb3⟩
    rw [HWR.out]
    exact iter_vol hFl ⟨hbx, RollAt.keep hA2 hb3, ho1.1, own_keep ho1.2 (hb2.trans hb3)⟩
  · have HW : Hid (∀ u, Bw w u → Calls Tryz.prog 28 #[.slice A n cap] u fun e w' => e = .returned (.tuple #[.agg #[.slice none 0 0, .int .i64 0], .int .i64 (wi : Int), .int .i64 we]) ∧ Bw u w') := fun u hu => (HW0.out u hu).mono fun e w' ⟨h, hb⟩ => by
      rcases h with ⟨_, h2⟩ | ⟨h3, _⟩
      · rw [hwr.out] at h2; exact ⟨h2, hb⟩
      · rw [hwr.out] at h3; exact absurd h3 h0
    have hnil : Hid (wb = []) := by have := Pk.wr_err (t := Tr.its L) (by rw [hwr.out]; exact h0); rw [hwr.out] at this; exact this
    have e1 : (we != 0) = true := by rw [bne_iff_ne]; exact h0
    clear h0 HW0
    go_enter Tryz.func14, Tryz.ntmps14
    go_wp2_with (first
      | (go_at_call 28; refine (HW.out _ (Bw.refl _)).mono ?_; rintro e w1 ⟨rfl, hw1⟩)
      | (refine wpList_store_row rfl 69 _ _ rfl w1.heap.size #[.slice none 0 0, .int .i64 0] rfl rfl 69 _ (heap_alloc_new _ _) (info_roll _ _) rfl (roll_one _ _ _ _) ?_; rw [setRow_alloc_new]; obtain ⟨w2, hw2⟩ : ∃ V, V = w1.alloc (.cells #[.slice none 0 0, .int .i64 0] 69) := ⟨_, rfl⟩; have hb2 : Bw w1 w2 := (by rw [hw2]; exact bw_alloc7 (Bw.refl _) _); rw [← hw2]; clear hw2))
    go_ret
    refine ⟨⟨_, _, 0, rfl, ?_⟩, hw1.trans hb2⟩
    rw [hwr.out, hnil.out]
    exact iter_none _
end Go.Proofs.YtldkhbkgmiicbaaGreatDoor
