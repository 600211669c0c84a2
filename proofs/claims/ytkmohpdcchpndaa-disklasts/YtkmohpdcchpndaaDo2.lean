/-
  What a write does.
-/
import Derived.Test.YtkmohpdcchpndaaDo
namespace Go.Proofs.Ytkmohpdcchpndaa
open Go.RowKit
set_option linter.unusedVariables false
set_option linter.unusedSimpArgs false
theorem Has.apart {w w1 : World} {row : Option Nat} {g off : Nat} {p : List Int} (h : Has w (some ⟨g, off, none⟩) p) (hg : w.grownBy w1 row) (hne : some g ≠ row) : Has w1 (some ⟨g, off, none⟩) p := by
  rcases h with ⟨e, _⟩ | ⟨x, e, hc⟩
  · cases e
  · cases e
    refine .inr ⟨_, rfl, fun j hj => ?_⟩
    have := hc j hj
    rw [Go.WideShapes.add_plain] at this ⊢
    exact (hg.cell_far _ (by
      have : g < w.heap.size := by
        rcases Nat.lt_or_ge g w.heap.size with h | h
        · exact h
        · simp [World.cell?, Array.getElem?_eq_none h] at this
      exact this) hne).trans this
theorem has_mid {w : World} {g off : Nat} {p : List Int} (h : Has w (some ⟨g, off, none⟩) p) (m n : Nat) (hn : n ≤ p.length) (hm : m ≤ n) : Has w (some ⟨g, off + m, none⟩) ((p.take n).drop m) := by
  rcases h with ⟨e, _⟩ | ⟨x, e, hc⟩
  · cases e
  · cases e
    refine .inr ⟨_, rfl, fun j hj => ?_⟩
    have hj' : j < n - m := by simpa [Nat.min_eq_left hn] using hj
    have := hc (m + j) (by omega)
    rw [Go.WideShapes.add_plain] at this ⊢
    rw [Nat.add_assoc, this]
    congr 2
    simp only [List.getD_eq_getElem?_getD, List.getElem?_drop, List.getElem?_take]
    rw [if_pos (by omega)]
theorem has_none (w : World) (x : Addr) : Has w (some x) [] := .inr ⟨x, rfl, fun j hj => by simp at hj⟩
set_option maxRecDepth 100000 in
set_option maxHeartbeats 2000000 in
theorem wr_do (w : World) (base : Nat) (ao : Option Addr) (cap at_ n ab pb : Nat) (b p : List Int) (ap : Option Addr) (pc : Nat) (hB : Buf w base (.slice ao b.length cap) b) (hP : Buf w base (.slice ap p.length pc) p) (hat : at_ ≤ b.length) (hn : n ≤ p.length) (hl : b.length + p.length ≤ 140737488355328)
    (ha : w.heap[ab]? = some (.cells #[.int .i64 at_] 3 (0, 0))) (hpb : w.heap[pb]? = some (.cells #[.slice ap p.length pc] 32 (0, 0))) (hap : ∀ k, (Value.slice ao b.length cap).ownBlock = some k → (Value.slice ap p.length pc).ownBlock ≠ some k) (hbase : base ≤ w.heap.size) :
    Calls Try.prog 66 #[.slice ao b.length cap, .int .i64 n, .pointer (some ⟨ab, 0, none⟩), .pointer (some ⟨pb, 0, none⟩)] w fun e w' => ∃ v', e = .returned v' ∧ Buf w' base v' (over b at_ (p.take n)) ∧ w.grownBy w' (Value.slice ao b.length cap).ownBlock ∧ (v'.ownBlock = (Value.slice ao b.length cap).ownBlock ∨ ∀ g, v'.ownBlock = some g → w.heap.size ≤ g) := by
  obtain ⟨i0, i0i, hz0, hz1, hz2⟩ := info_parts Try.info5
  obtain ⟨_, _, hv, hbb, _, hlc, hcm⟩ := hB.form
  cases hv
  obtain ⟨_, _, hv, hpbb, hHp, hpl, hpm⟩ := hP.form
  cases hv
  unfold maxLen at hcm hpm
  obtain ⟨m, hm⟩ : ∃ m, m = min n (b.length - at_) := ⟨_, rfl⟩
  -- the row of b is of another make than the boxes
  have ne3 : ∀ k, (Value.slice ao b.length cap).ownBlock = some k → ab ≠ k ∧ pb ≠ k := fun k hk => by
    obtain ⟨cur, hc⟩ := hB.typ hk
    refine ⟨fun e => ?_, fun e => ?_⟩
    · rw [e, hc] at ha; cases ha
    · rw [e, hc] at hpb; cases hpb
  have hoc : Octets p := hP.1
  have hm1 : m ≤ n := by omega
  have HF : Hid (∀ w1, w.grownBy w1 (Value.slice ao b.length cap).ownBlock → w1.cell? ⟨ab, 0, none⟩ = some (.int .i64 at_) ∧ w1.cell? ⟨pb, 0, none⟩ = some (.slice ap p.length pc)) := fun w1 hg => by
    have la := lt_of_block ha
    have lp := lt_of_block hpb
    refine ⟨?_, ?_⟩
    · rw [hg.cell_far _ la (fun e => (ne3 ab e.symm).1 rfl)]; simp [World.cell?, ha]
    · rw [hg.cell_far _ lp (fun e => (ne3 pb e.symm).2 rfl)]; simp [World.cell?, hpb]
  have c0 : w.drew.cell? ⟨ab, 0, none⟩ = some (.int .i64 at_) := (by simp [World.cell?, ha] : w.cell? ⟨ab, 0, none⟩ = some (.int .i64 at_))
  have c1 : w.drew.cell? ⟨pb, 0, none⟩ = some (.slice ap p.length pc) := (by simp [World.cell?, hpb] : w.cell? ⟨pb, 0, none⟩ = some (.slice ap p.length pc))
  have HCopy : Hid (∀ dv, ((∃ g off c, ao = some ⟨g, off, none⟩ ∧ dv = .slice (some ⟨g, off + at_, none⟩) (b.length - at_) c) ∨ (b.length - at_ = 0 ∧ ∃ x c, dv = .slice x 0 c)) → ∃ w1, (∀ ty, (Builtin.copy_ #[32, 32] ty #[dv, .slice ap n pc]).run Try.prog w.drew = .ok (goInt m) w1) ∧ Buf w1 base (.slice ao b.length cap) (over b at_ (p.take m)) ∧ w.drew.grownBy w1 (Value.slice ao b.length cap).ownBlock) := fun dv hdv =>
    copy_any w.drew base ao cap at_ n m b p ap pc dv (hB.keep fun _ _ => rfl) (by rcases hHp with h | ⟨x, e, hc⟩; exact .inl h; exact .inr ⟨x, e, hc⟩) hoc hn hat hm hdv
  obtain ⟨L, hL⟩ : ∃ L, b.length = L := ⟨_, rfl⟩
  obtain ⟨PL, hPL⟩ : ∃ PL, p.length = PL := ⟨_, rfl⟩
  have HSrc : Hid (∀ w1, w.drew.grownBy w1 (Value.slice ao b.length cap).ownBlock → ∀ g off, ap = some ⟨g, off, none⟩ → Has w1 (some ⟨g, off + m, none⟩) ((p.take n).drop m)) := fun w1 hg g off e => by
    subst e
    have h1 : Has w.drew (some ⟨g, off, none⟩) p := by
      rcases hHp with h | ⟨x, e, hc⟩
      · exact .inl h
      · exact .inr ⟨x, e, hc⟩
    exact has_mid (h1.apart hg (fun e => hap g e.symm rfl)) m n hn hm1
  have HO : Hid (Octets ((p.take n).drop m)) := fun j => by
    have := hoc (m + j)
    simp only [List.getD_eq_getElem?_getD, List.getElem?_drop, List.getElem?_take] at this ⊢
    split
    · exact this
    · simp
  have HLen : Hid (((p.take n).drop m).length = n - m) := (by simp; omega : ((p.take n).drop m).length = n - m)
  have HOv : Hid (over b at_ (p.take m) ++ (p.take n).drop m = over b at_ (p.take n)) := over_more b p at_ n m hn hat hm
  have HOl : Hid ((over b at_ (p.take m)).length + (n - m) ≤ 140737488355328) := (by rw [over_length _ _ _ hat]; simp; omega : (over b at_ (p.take m)).length + (n - m) ≤ 140737488355328)
  have HBs : Hid (∀ w1, w.drew.grownBy w1 (Value.slice ao b.length cap).ownBlock → base ≤ w1.heap.size) := fun w1 hg => Nat.le_trans hbase hg.size
  have HPs : Hid (ap = none ∨ ∃ g off, ap = some ⟨g, off, none⟩) := by
    obtain ⟨_, ⟨e, _⟩ | ⟨g, off, _, _, e, _⟩⟩ := hP
    · injection e with e; exact .inl e
    · injection e with e; exact .inr ⟨g, off, e⟩
  have HAs : Hid (ao = none ∨ ∃ g off, ao = some ⟨g, off, none⟩) := by
    obtain ⟨_, ⟨e, _⟩ | ⟨g, off, _, _, e, _⟩⟩ := hB
    · injection e with e; exact .inl e
    · injection e with e; exact .inr ⟨g, off, e⟩
  have a0 : (0 : Int) ≤ at_ := by omega
  have n0 : (0 : Int) ≤ n := by omega
  have m0 : (0 : Int) ≤ m := by omega
  have mn : (m : Int) ≤ n := by omega
  have hmL : m ≤ L - at_ := by omega
  rw [hL] at HCopy HF HSrc HBs hlc hat hap ne3 hB ⊢
  rw [hPL] at HF hpl hn c1 hap hP hpb
  clear hB hP ha hpb hap ne3 hHp hoc hm hL hPL hl hm1
  rcases HAs.out with rfl | ⟨g, off, rfl⟩
  · obtain rfl := hbb rfl
    obtain rfl : L = 0 := by omega
    obtain rfl : at_ = 0 := by omega
    obtain rfl : m = 0 := by omega
    rcases HPs.out with rfl | ⟨pg, poff, rfl⟩
    · obtain rfl := hpbb rfl
      obtain rfl : PL = 0 := by omega
      obtain rfl : n = 0 := by omega
      obtain ⟨w1, hrun, hB1, hg1⟩ := HCopy.out (Value.slice none 0 0) (.inr ⟨rfl, none, 0, rfl⟩)
      have HB1 : Hid (Buf w1 base (.slice none 0 0) (over b 0 (p.take 0))) := hB1
      have HG1 : Hid (w.drew.grownBy w1 (Value.slice none 0 0).ownBlock) := hg1
      obtain ⟨x0, x1⟩ := HF.out w1 ⟨hg1.os, hg1.tape, hg1.output, hg1.size, hg1.block⟩
      have HH : Hid (Has w1 none ((p.take 0).drop 0)) := (by simp; exact .inl ⟨rfl, rfl⟩ : Has w1 none ((p.take 0).drop 0))
      have HZ : Hid (base ≤ w1.heap.size) := HBs.out w1 hg1
      have hr3 := hrun 3
      simp only [goInt] at hr3
      clear hrun hB1 hg1
      go_enter Try.func66, Try.ntmps66
      go_wp2_with fail
      go_region_held3 (fun w' => w'.cell? ⟨ab, 0, none⟩ = some (.int .i64 ((0 : Nat) : Int)) ∧ w'.cell? ⟨pb, 0, none⟩ = some (.slice none 0 0)) (go_keep) (fail)
      have HL' : Hid (((p.take 0).drop 0).length = 0) := (by have := HLen.out; omega : ((p.take 0).drop 0).length = 0)
      have HO' : Hid ((over b 0 (p.take 0)).length + (0) ≤ 140737488355328) := (by have := HOl.out; omega : (over b 0 (p.take 0)).length + (0) ≤ 140737488355328)
      go_wp2_with (at_builtin; refine wpList_append_buf _ rfl (.tmp 15) (.tmp 19) 32 rfl base i0 Try.underlying32 i0i hz0 hz1 hz2 (.slice none 0 0) (over b 0 (p.take 0)) rfl HB1.out none (0) (0) ((p.take 0).drop 0) rfl HL'.out (fun h => by first | rfl | cases h) HH.out HO.out HO'.out HZ.out ?_; intro v2 w2 hb2 hg2 hat2; have HE2 : Hid (Buf w2 base v2 (over b 0 (p.take 0) ++ (p.take 0).drop 0) ∧ w1.grownBy w2 (Value.slice none 0 0).ownBlock ∧ (v2.ownBlock = (Value.slice none 0 0).ownBlock ∨ ∀ g, v2.ownBlock = some g → w1.heap.size ≤ g)) := ⟨hb2, hg2, hat2⟩; clear hb2 hg2 hat2)
      go_ret
      obtain ⟨e1, e2, e3⟩ := HE2.out
      rw [HOv.out] at e1
      exact ⟨v2, rfl, e1, (⟨HG1.out.os, HG1.out.tape, HG1.out.output, HG1.out.size, HG1.out.block⟩ : w.grownBy w1 _).trans e2, e3.imp id (fun h g hg => Nat.le_trans HG1.out.size (h g hg))⟩
    · by_cases hmp : 0 = pc
      · subst hmp
        obtain rfl : PL = 0 := by omega
        obtain rfl : n = 0 := by omega
        obtain ⟨w1, hrun, hB1, hg1⟩ := HCopy.out (Value.slice none 0 0) (.inr ⟨rfl, none, 0, rfl⟩)
        have HB1 : Hid (Buf w1 base (.slice none 0 0) (over b 0 (p.take 0))) := hB1
        have HG1 : Hid (w.drew.grownBy w1 (Value.slice none 0 0).ownBlock) := hg1
        obtain ⟨x0, x1⟩ := HF.out w1 ⟨hg1.os, hg1.tape, hg1.output, hg1.size, hg1.block⟩
        have HH : Hid (Has w1 (some ⟨pg, poff, none⟩) ((p.take 0).drop 0)) := (by simp; exact has_none _ _ : Has w1 (some ⟨pg, poff, none⟩) ((p.take 0).drop 0))
        have HZ : Hid (base ≤ w1.heap.size) := HBs.out w1 hg1
        have hr3 := hrun 3
        simp only [goInt] at hr3
        clear hrun hB1 hg1
        go_enter Try.func66, Try.ntmps66
        go_wp2_with fail
        go_region_held3 (fun w' => w'.cell? ⟨ab, 0, none⟩ = some (.int .i64 ((0 : Nat) : Int)) ∧ w'.cell? ⟨pb, 0, none⟩ = some (.slice (some ⟨pg, poff, none⟩) 0 0)) (go_keep) (fail)
        have HL' : Hid (((p.take 0).drop 0).length = 0) := (by have := HLen.out; omega : ((p.take 0).drop 0).length = 0)
        have HO' : Hid ((over b 0 (p.take 0)).length + (0) ≤ 140737488355328) := (by have := HOl.out; omega : (over b 0 (p.take 0)).length + (0) ≤ 140737488355328)
        go_wp2_with (at_builtin; refine wpList_append_buf _ rfl (.tmp 15) (.tmp 19) 32 rfl base i0 Try.underlying32 i0i hz0 hz1 hz2 (.slice none 0 0) (over b 0 (p.take 0)) rfl HB1.out (some ⟨pg, poff, none⟩) (0) (0) ((p.take 0).drop 0) rfl HL'.out (fun h => by first | rfl | cases h) HH.out HO.out HO'.out HZ.out ?_; intro v2 w2 hb2 hg2 hat2; have HE2 : Hid (Buf w2 base v2 (over b 0 (p.take 0) ++ (p.take 0).drop 0) ∧ w1.grownBy w2 (Value.slice none 0 0).ownBlock ∧ (v2.ownBlock = (Value.slice none 0 0).ownBlock ∨ ∀ g, v2.ownBlock = some g → w1.heap.size ≤ g)) := ⟨hb2, hg2, hat2⟩; clear hb2 hg2 hat2)
        go_ret
        obtain ⟨e1, e2, e3⟩ := HE2.out
        rw [HOv.out] at e1
        exact ⟨v2, rfl, e1, (⟨HG1.out.os, HG1.out.tape, HG1.out.output, HG1.out.size, HG1.out.block⟩ : w.grownBy w1 _).trans e2, e3.imp id (fun h g hg => Nat.le_trans HG1.out.size (h g hg))⟩
      · have hnp : (n : Int) ≤ pc := by omega
        have hmp' : (0 : Int) ≤ pc := by omega
        obtain ⟨w1, hrun, hB1, hg1⟩ := HCopy.out (Value.slice none 0 0) (.inr ⟨rfl, none, 0, rfl⟩)
        have HB1 : Hid (Buf w1 base (.slice none 0 0) (over b 0 (p.take 0))) := hB1
        have HG1 : Hid (w.drew.grownBy w1 (Value.slice none 0 0).ownBlock) := hg1
        obtain ⟨x0, x1⟩ := HF.out w1 ⟨hg1.os, hg1.tape, hg1.output, hg1.size, hg1.block⟩
        have HH : Hid (Has w1 (some ⟨pg, poff, none⟩) ((p.take n).drop 0)) := (by have := HSrc.out w1 hg1 pg poff rfl; simpa using this : Has w1 (some ⟨pg, poff, none⟩) ((p.take n).drop 0))
        have HZ : Hid (base ≤ w1.heap.size) := HBs.out w1 hg1
        have hr3 := hrun 3
        simp only [goInt] at hr3
        clear hrun hB1 hg1
        go_enter Try.func66, Try.ntmps66
        go_wp2_with fail
        go_region_held3 (fun w' => w'.cell? ⟨ab, 0, none⟩ = some (.int .i64 ((0 : Nat) : Int)) ∧ w'.cell? ⟨pb, 0, none⟩ = some (.slice (some ⟨pg, poff, none⟩) PL pc)) (go_keep) (fail)
        have HL' : Hid (((p.take n).drop 0).length = n) := (by have := HLen.out; omega : ((p.take n).drop 0).length = n)
        have HO' : Hid ((over b 0 (p.take 0)).length + (n) ≤ 140737488355328) := (by have := HOl.out; omega : (over b 0 (p.take 0)).length + (n) ≤ 140737488355328)
        go_wp2_with (at_builtin; refine wpList_append_buf _ rfl (.tmp 15) (.tmp 19) 32 rfl base i0 Try.underlying32 i0i hz0 hz1 hz2 (.slice none 0 0) (over b 0 (p.take 0)) rfl HB1.out (some ⟨pg, poff, none⟩) (n) (pc) ((p.take n).drop 0) rfl HL'.out (fun h => by first | rfl | cases h) HH.out HO.out HO'.out HZ.out ?_; intro v2 w2 hb2 hg2 hat2; have HE2 : Hid (Buf w2 base v2 (over b 0 (p.take 0) ++ (p.take n).drop 0) ∧ w1.grownBy w2 (Value.slice none 0 0).ownBlock ∧ (v2.ownBlock = (Value.slice none 0 0).ownBlock ∨ ∀ g, v2.ownBlock = some g → w1.heap.size ≤ g)) := ⟨hb2, hg2, hat2⟩; clear hb2 hg2 hat2)
        go_ret
        obtain ⟨e1, e2, e3⟩ := HE2.out
        rw [HOv.out] at e1
        exact ⟨v2, rfl, e1, (⟨HG1.out.os, HG1.out.tape, HG1.out.output, HG1.out.size, HG1.out.block⟩ : w.grownBy w1 _).trans e2, e3.imp id (fun h g hg => Nat.le_trans HG1.out.size (h g hg))⟩
  · by_cases hac : at_ = cap
    · subst hac
      obtain rfl : L = at_ := by omega
      obtain rfl : m = 0 := by omega
      rcases HPs.out with rfl | ⟨pg, poff, rfl⟩
      · obtain rfl := hpbb rfl
        obtain rfl : PL = 0 := by omega
        obtain rfl : n = 0 := by omega
        obtain ⟨w1, hrun, hB1, hg1⟩ := HCopy.out (Value.slice (some ⟨g, off, none⟩) 0 0) (.inr ⟨by omega, _, 0, rfl⟩)
        have HB1 : Hid (Buf w1 base (.slice (some ⟨g, off, none⟩) L L) (over b L (p.take 0))) := hB1
        have HG1 : Hid (w.drew.grownBy w1 (Value.slice (some ⟨g, off, none⟩) L L).ownBlock) := hg1
        obtain ⟨x0, x1⟩ := HF.out w1 ⟨hg1.os, hg1.tape, hg1.output, hg1.size, hg1.block⟩
        have HH : Hid (Has w1 none ((p.take 0).drop 0)) := (by simp; exact .inl ⟨rfl, rfl⟩ : Has w1 none ((p.take 0).drop 0))
        have HZ : Hid (base ≤ w1.heap.size) := HBs.out w1 hg1
        have hr3 := hrun 3
        simp only [goInt] at hr3
        clear hrun hB1 hg1
        go_enter Try.func66, Try.ntmps66
        go_wp2_with fail
        go_region_held3 (fun w' => w'.cell? ⟨ab, 0, none⟩ = some (.int .i64 ((L : Nat) : Int)) ∧ w'.cell? ⟨pb, 0, none⟩ = some (.slice none 0 0)) (go_keep) (fail)
        have HL' : Hid (((p.take 0).drop 0).length = 0) := (by have := HLen.out; omega : ((p.take 0).drop 0).length = 0)
        have HO' : Hid ((over b L (p.take 0)).length + (0) ≤ 140737488355328) := (by have := HOl.out; omega : (over b L (p.take 0)).length + (0) ≤ 140737488355328)
        go_wp2_with (at_builtin; refine wpList_append_buf _ rfl (.tmp 15) (.tmp 19) 32 rfl base i0 Try.underlying32 i0i hz0 hz1 hz2 (.slice (some ⟨g, off, none⟩) L L) (over b L (p.take 0)) rfl HB1.out none (0) (0) ((p.take 0).drop 0) rfl HL'.out (fun h => by first | rfl | cases h) HH.out HO.out HO'.out HZ.out ?_; intro v2 w2 hb2 hg2 hat2; have HE2 : Hid (Buf w2 base v2 (over b L (p.take 0) ++ (p.take 0).drop 0) ∧ w1.grownBy w2 (Value.slice (some ⟨g, off, none⟩) L L).ownBlock ∧ (v2.ownBlock = (Value.slice (some ⟨g, off, none⟩) L L).ownBlock ∨ ∀ g, v2.ownBlock = some g → w1.heap.size ≤ g)) := ⟨hb2, hg2, hat2⟩; clear hb2 hg2 hat2)
        go_ret
        obtain ⟨e1, e2, e3⟩ := HE2.out
        rw [HOv.out] at e1
        exact ⟨v2, rfl, e1, (⟨HG1.out.os, HG1.out.tape, HG1.out.output, HG1.out.size, HG1.out.block⟩ : w.grownBy w1 _).trans e2, e3.imp id (fun h g hg => Nat.le_trans HG1.out.size (h g hg))⟩
      · by_cases hmp : 0 = pc
        · subst hmp
          obtain rfl : PL = 0 := by omega
          obtain rfl : n = 0 := by omega
          obtain ⟨w1, hrun, hB1, hg1⟩ := HCopy.out (Value.slice (some ⟨g, off, none⟩) 0 0) (.inr ⟨by omega, _, 0, rfl⟩)
          have HB1 : Hid (Buf w1 base (.slice (some ⟨g, off, none⟩) L L) (over b L (p.take 0))) := hB1
          have HG1 : Hid (w.drew.grownBy w1 (Value.slice (some ⟨g, off, none⟩) L L).ownBlock) := hg1
          obtain ⟨x0, x1⟩ := HF.out w1 ⟨hg1.os, hg1.tape, hg1.output, hg1.size, hg1.block⟩
          have HH : Hid (Has w1 (some ⟨pg, poff, none⟩) ((p.take 0).drop 0)) := (by simp; exact has_none _ _ : Has w1 (some ⟨pg, poff, none⟩) ((p.take 0).drop 0))
          have HZ : Hid (base ≤ w1.heap.size) := HBs.out w1 hg1
          have hr3 := hrun 3
          simp only [goInt] at hr3
          clear hrun hB1 hg1
          go_enter Try.func66, Try.ntmps66
          go_wp2_with fail
          go_region_held3 (fun w' => w'.cell? ⟨ab, 0, none⟩ = some (.int .i64 ((L : Nat) : Int)) ∧ w'.cell? ⟨pb, 0, none⟩ = some (.slice (some ⟨pg, poff, none⟩) 0 0)) (go_keep) (fail)
          have HL' : Hid (((p.take 0).drop 0).length = 0) := (by have := HLen.out; omega : ((p.take 0).drop 0).length = 0)
          have HO' : Hid ((over b L (p.take 0)).length + (0) ≤ 140737488355328) := (by have := HOl.out; omega : (over b L (p.take 0)).length + (0) ≤ 140737488355328)
          go_wp2_with (at_builtin; refine wpList_append_buf _ rfl (.tmp 15) (.tmp 19) 32 rfl base i0 Try.underlying32 i0i hz0 hz1 hz2 (.slice (some ⟨g, off, none⟩) L L) (over b L (p.take 0)) rfl HB1.out (some ⟨pg, poff, none⟩) (0) (0) ((p.take 0).drop 0) rfl HL'.out (fun h => by first | rfl | cases h) HH.out HO.out HO'.out HZ.out ?_; intro v2 w2 hb2 hg2 hat2; have HE2 : Hid (Buf w2 base v2 (over b L (p.take 0) ++ (p.take 0).drop 0) ∧ w1.grownBy w2 (Value.slice (some ⟨g, off, none⟩) L L).ownBlock ∧ (v2.ownBlock = (Value.slice (some ⟨g, off, none⟩) L L).ownBlock ∨ ∀ g, v2.ownBlock = some g → w1.heap.size ≤ g)) := ⟨hb2, hg2, hat2⟩; clear hb2 hg2 hat2)
          go_ret
          obtain ⟨e1, e2, e3⟩ := HE2.out
          rw [HOv.out] at e1
          exact ⟨v2, rfl, e1, (⟨HG1.out.os, HG1.out.tape, HG1.out.output, HG1.out.size, HG1.out.block⟩ : w.grownBy w1 _).trans e2, e3.imp id (fun h g hg => Nat.le_trans HG1.out.size (h g hg))⟩
        · have hnp : (n : Int) ≤ pc := by omega
          have hmp' : (0 : Int) ≤ pc := by omega
          obtain ⟨w1, hrun, hB1, hg1⟩ := HCopy.out (Value.slice (some ⟨g, off, none⟩) 0 0) (.inr ⟨by omega, _, 0, rfl⟩)
          have HB1 : Hid (Buf w1 base (.slice (some ⟨g, off, none⟩) L L) (over b L (p.take 0))) := hB1
          have HG1 : Hid (w.drew.grownBy w1 (Value.slice (some ⟨g, off, none⟩) L L).ownBlock) := hg1
          obtain ⟨x0, x1⟩ := HF.out w1 ⟨hg1.os, hg1.tape, hg1.output, hg1.size, hg1.block⟩
          have HH : Hid (Has w1 (some ⟨pg, poff, none⟩) ((p.take n).drop 0)) := (by have := HSrc.out w1 hg1 pg poff rfl; simpa using this : Has w1 (some ⟨pg, poff, none⟩) ((p.take n).drop 0))
          have HZ : Hid (base ≤ w1.heap.size) := HBs.out w1 hg1
          have hr3 := hrun 3
          simp only [goInt] at hr3
          clear hrun hB1 hg1
          go_enter Try.func66, Try.ntmps66
          go_wp2_with fail
          go_region_held3 (fun w' => w'.cell? ⟨ab, 0, none⟩ = some (.int .i64 ((L : Nat) : Int)) ∧ w'.cell? ⟨pb, 0, none⟩ = some (.slice (some ⟨pg, poff, none⟩) PL pc)) (go_keep) (fail)
          have HL' : Hid (((p.take n).drop 0).length = n) := (by have := HLen.out; omega : ((p.take n).drop 0).length = n)
          have HO' : Hid ((over b L (p.take 0)).length + (n) ≤ 140737488355328) := (by have := HOl.out; omega : (over b L (p.take 0)).length + (n) ≤ 140737488355328)
          go_wp2_with (at_builtin; refine wpList_append_buf _ rfl (.tmp 15) (.tmp 19) 32 rfl base i0 Try.underlying32 i0i hz0 hz1 hz2 (.slice (some ⟨g, off, none⟩) L L) (over b L (p.take 0)) rfl HB1.out (some ⟨pg, poff, none⟩) (n) (pc) ((p.take n).drop 0) rfl HL'.out (fun h => by first | rfl | cases h) HH.out HO.out HO'.out HZ.out ?_; intro v2 w2 hb2 hg2 hat2; have HE2 : Hid (Buf w2 base v2 (over b L (p.take 0) ++ (p.take n).drop 0) ∧ w1.grownBy w2 (Value.slice (some ⟨g, off, none⟩) L L).ownBlock ∧ (v2.ownBlock = (Value.slice (some ⟨g, off, none⟩) L L).ownBlock ∨ ∀ g, v2.ownBlock = some g → w1.heap.size ≤ g)) := ⟨hb2, hg2, hat2⟩; clear hb2 hg2 hat2)
          go_ret
          obtain ⟨e1, e2, e3⟩ := HE2.out
          rw [HOv.out] at e1
          exact ⟨v2, rfl, e1, (⟨HG1.out.os, HG1.out.tape, HG1.out.output, HG1.out.size, HG1.out.block⟩ : w.grownBy w1 _).trans e2, e3.imp id (fun h g hg => Nat.le_trans HG1.out.size (h g hg))⟩
    · have hac' : (at_ : Int) ≤ cap := by omega
      have haL : (at_ : Int) ≤ L := by omega
      rcases HPs.out with rfl | ⟨pg, poff, rfl⟩
      · obtain rfl := hpbb rfl
        obtain rfl : PL = 0 := by omega
        obtain rfl : n = 0 := by omega
        obtain rfl : m = 0 := by omega
        obtain ⟨w1, hrun, hB1, hg1⟩ := HCopy.out (Value.slice (some ⟨g, off + at_, none⟩) (L - at_) (cap - at_)) (.inl ⟨g, off, cap - at_, rfl, rfl⟩)
        have HB1 : Hid (Buf w1 base (.slice (some ⟨g, off, none⟩) L cap) (over b at_ (p.take 0))) := hB1
        have HG1 : Hid (w.drew.grownBy w1 (Value.slice (some ⟨g, off, none⟩) L cap).ownBlock) := hg1
        obtain ⟨x0, x1⟩ := HF.out w1 ⟨hg1.os, hg1.tape, hg1.output, hg1.size, hg1.block⟩
        have HH : Hid (Has w1 none ((p.take 0).drop 0)) := (by simp; exact .inl ⟨rfl, rfl⟩ : Has w1 none ((p.take 0).drop 0))
        have HZ : Hid (base ≤ w1.heap.size) := HBs.out w1 hg1
        have hr3 := hrun 3
        simp only [goInt] at hr3
        clear hrun hB1 hg1
        go_enter Try.func66, Try.ntmps66
        go_wp2_with fail
        go_region_held3 (fun w' => w'.cell? ⟨ab, 0, none⟩ = some (.int .i64 ((at_ : Nat) : Int)) ∧ w'.cell? ⟨pb, 0, none⟩ = some (.slice none 0 0)) (go_keep) (fail)
        have HL' : Hid (((p.take 0).drop 0).length = 0) := (by have := HLen.out; omega : ((p.take 0).drop 0).length = 0)
        have HO' : Hid ((over b at_ (p.take 0)).length + (0) ≤ 140737488355328) := (by have := HOl.out; omega : (over b at_ (p.take 0)).length + (0) ≤ 140737488355328)
        go_wp2_with (at_builtin; refine wpList_append_buf _ rfl (.tmp 15) (.tmp 19) 32 rfl base i0 Try.underlying32 i0i hz0 hz1 hz2 (.slice (some ⟨g, off, none⟩) L cap) (over b at_ (p.take 0)) rfl HB1.out none (0) (0) ((p.take 0).drop 0) rfl HL'.out (fun h => by first | rfl | cases h) HH.out HO.out HO'.out HZ.out ?_; intro v2 w2 hb2 hg2 hat2; have HE2 : Hid (Buf w2 base v2 (over b at_ (p.take 0) ++ (p.take 0).drop 0) ∧ w1.grownBy w2 (Value.slice (some ⟨g, off, none⟩) L cap).ownBlock ∧ (v2.ownBlock = (Value.slice (some ⟨g, off, none⟩) L cap).ownBlock ∨ ∀ g, v2.ownBlock = some g → w1.heap.size ≤ g)) := ⟨hb2, hg2, hat2⟩; clear hb2 hg2 hat2)
        go_ret
        obtain ⟨e1, e2, e3⟩ := HE2.out
        rw [HOv.out] at e1
        exact ⟨v2, rfl, e1, (⟨HG1.out.os, HG1.out.tape, HG1.out.output, HG1.out.size, HG1.out.block⟩ : w.grownBy w1 _).trans e2, e3.imp id (fun h g hg => Nat.le_trans HG1.out.size (h g hg))⟩
      · by_cases hmp : m = pc
        · obtain rfl : n = m := by omega
          subst hmp
          obtain rfl : PL = n := by omega
          obtain ⟨w1, hrun, hB1, hg1⟩ := HCopy.out (Value.slice (some ⟨g, off + at_, none⟩) (L - at_) (cap - at_)) (.inl ⟨g, off, cap - at_, rfl, rfl⟩)
          have HB1 : Hid (Buf w1 base (.slice (some ⟨g, off, none⟩) L cap) (over b at_ (p.take PL))) := hB1
          have HG1 : Hid (w.drew.grownBy w1 (Value.slice (some ⟨g, off, none⟩) L cap).ownBlock) := hg1
          obtain ⟨x0, x1⟩ := HF.out w1 ⟨hg1.os, hg1.tape, hg1.output, hg1.size, hg1.block⟩
          have HH : Hid (Has w1 (some ⟨pg, poff, none⟩) ((p.take PL).drop PL)) := (by simp; exact has_none _ _ : Has w1 (some ⟨pg, poff, none⟩) ((p.take PL).drop PL))
          have HZ : Hid (base ≤ w1.heap.size) := HBs.out w1 hg1
          have hr3 := hrun 3
          simp only [goInt] at hr3
          clear hrun hB1 hg1
          go_enter Try.func66, Try.ntmps66
          go_wp2_with fail
          go_region_held3 (fun w' => w'.cell? ⟨ab, 0, none⟩ = some (.int .i64 ((at_ : Nat) : Int)) ∧ w'.cell? ⟨pb, 0, none⟩ = some (.slice (some ⟨pg, poff, none⟩) PL PL)) (go_keep) (fail)
          have HL' : Hid (((p.take PL).drop PL).length = 0) := (by have := HLen.out; omega : ((p.take PL).drop PL).length = 0)
          have HO' : Hid ((over b at_ (p.take PL)).length + (0) ≤ 140737488355328) := (by have := HOl.out; omega : (over b at_ (p.take PL)).length + (0) ≤ 140737488355328)
          go_wp2_with (at_builtin; refine wpList_append_buf _ rfl (.tmp 15) (.tmp 19) 32 rfl base i0 Try.underlying32 i0i hz0 hz1 hz2 (.slice (some ⟨g, off, none⟩) L cap) (over b at_ (p.take PL)) rfl HB1.out (some ⟨pg, poff, none⟩) (0) (0) ((p.take PL).drop PL) rfl HL'.out (fun h => by first | rfl | cases h) HH.out HO.out HO'.out HZ.out ?_; intro v2 w2 hb2 hg2 hat2; have HE2 : Hid (Buf w2 base v2 (over b at_ (p.take PL) ++ (p.take PL).drop PL) ∧ w1.grownBy w2 (Value.slice (some ⟨g, off, none⟩) L cap).ownBlock ∧ (v2.ownBlock = (Value.slice (some ⟨g, off, none⟩) L cap).ownBlock ∨ ∀ g, v2.ownBlock = some g → w1.heap.size ≤ g)) := ⟨hb2, hg2, hat2⟩; clear hb2 hg2 hat2)
          go_ret
          obtain ⟨e1, e2, e3⟩ := HE2.out
          rw [HOv.out] at e1
          exact ⟨v2, rfl, e1, (⟨HG1.out.os, HG1.out.tape, HG1.out.output, HG1.out.size, HG1.out.block⟩ : w.grownBy w1 _).trans e2, e3.imp id (fun h g hg => Nat.le_trans HG1.out.size (h g hg))⟩
        · have hnp : (n : Int) ≤ pc := by omega
          have hmp' : (m : Int) ≤ pc := by omega
          obtain ⟨w1, hrun, hB1, hg1⟩ := HCopy.out (Value.slice (some ⟨g, off + at_, none⟩) (L - at_) (cap - at_)) (.inl ⟨g, off, cap - at_, rfl, rfl⟩)
          have HB1 : Hid (Buf w1 base (.slice (some ⟨g, off, none⟩) L cap) (over b at_ (p.take m))) := hB1
          have HG1 : Hid (w.drew.grownBy w1 (Value.slice (some ⟨g, off, none⟩) L cap).ownBlock) := hg1
          obtain ⟨x0, x1⟩ := HF.out w1 ⟨hg1.os, hg1.tape, hg1.output, hg1.size, hg1.block⟩
          have HH : Hid (Has w1 (some ⟨pg, poff + m, none⟩) ((p.take n).drop m)) := HSrc.out w1 hg1 pg poff rfl
          have HZ : Hid (base ≤ w1.heap.size) := HBs.out w1 hg1
          have hr3 := hrun 3
          simp only [goInt] at hr3
          clear hrun hB1 hg1
          go_enter Try.func66, Try.ntmps66
          go_wp2_with fail
          go_region_held3 (fun w' => w'.cell? ⟨ab, 0, none⟩ = some (.int .i64 ((at_ : Nat) : Int)) ∧ w'.cell? ⟨pb, 0, none⟩ = some (.slice (some ⟨pg, poff, none⟩) PL pc)) (go_keep) (fail)
          have HL' : Hid (((p.take n).drop m).length = n - m) := (by have := HLen.out; omega : ((p.take n).drop m).length = n - m)
          have HO' : Hid ((over b at_ (p.take m)).length + (n - m) ≤ 140737488355328) := (by have := HOl.out; omega : (over b at_ (p.take m)).length + (n - m) ≤ 140737488355328)
          go_wp2_with (at_builtin; refine wpList_append_buf _ rfl (.tmp 15) (.tmp 19) 32 rfl base i0 Try.underlying32 i0i hz0 hz1 hz2 (.slice (some ⟨g, off, none⟩) L cap) (over b at_ (p.take m)) rfl HB1.out (some ⟨pg, poff + m, none⟩) (n - m) (pc - m) ((p.take n).drop m) rfl HL'.out (fun h => by first | rfl | cases h) HH.out HO.out HO'.out HZ.out ?_; intro v2 w2 hb2 hg2 hat2; have HE2 : Hid (Buf w2 base v2 (over b at_ (p.take m) ++ (p.take n).drop m) ∧ w1.grownBy w2 (Value.slice (some ⟨g, off, none⟩) L cap).ownBlock ∧ (v2.ownBlock = (Value.slice (some ⟨g, off, none⟩) L cap).ownBlock ∨ ∀ g, v2.ownBlock = some g → w1.heap.size ≤ g)) := ⟨hb2, hg2, hat2⟩; clear hb2 hg2 hat2)
          go_ret
          obtain ⟨e1, e2, e3⟩ := HE2.out
          rw [HOv.out] at e1
          exact ⟨v2, rfl, e1, (⟨HG1.out.os, HG1.out.tape, HG1.out.output, HG1.out.size, HG1.out.block⟩ : w.grownBy w1 _).trans e2, e3.imp id (fun h g hg => Nat.le_trans HG1.out.size (h g hg))⟩
end Go.Proofs.Ytkmohpdcchpndaa
