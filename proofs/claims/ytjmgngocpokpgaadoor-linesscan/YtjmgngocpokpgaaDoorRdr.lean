/-
  The reader's methods: over, skipBlanks, take.
-/
import Derived.Test.YtjmgngocpokpgaaDoorTk
namespace Go.Proofs.YtjmgngocpokpgaaDoor
open Go.RowKit
set_option linter.unusedVariables false
set_option linter.unusedSimpArgs false
def ovrF (l : List UInt8) : Bool := match l with
  | [] => true
  | c :: _ => decide ((c.toNat : Int) = 35)
theorem rest_at (l r : List UInt8) (p b : Nat) (w : World) (hs : l.length ≤ 2 ^ 62) (ha : p ≤ l.length) (hr : l.drop p = r)
    (h0 : w.cell? ⟨b, 0, none⟩ = some (.string ⟨l.toArray⟩)) (h2 : w.cell? ⟨b, 2, none⟩ = some (.int .i64 p)) :
    Calls Tryd.prog 43 #[.pointer (some ⟨b, 0, none⟩)] w fun e w' => e = .returned (.string ⟨r.toArray⟩) ∧ ∃ q, w' = w.drewN q := hr ▸ rest_any l p b w hs ha h0 h2
theorem cell_drewN (w : World) (q : Nat) (a : Addr) : (w.drewN q).cell? a = w.cell? a := by
  simp
theorem over_any (l : List UInt8) (p b : Nat) (w : World) (hs : l.length ≤ 2 ^ 62) (ha : p ≤ l.length)
    (h0 : w.cell? ⟨b, 0, none⟩ = some (.string ⟨l.toArray⟩)) (h2 : w.cell? ⟨b, 2, none⟩ = some (.int .i64 p)) :
    Calls Tryd.prog 41 #[.pointer (some ⟨b, 0, none⟩)] w fun e w' => e = .returned (.bool (ovrF (l.drop p))) ∧ ∃ q, w' = w.drewN q := by
  rcases hr : l.drop p with _ | ⟨c, r⟩
  · go_enter Tryd.func41, Tryd.ntmps41
    go_wp2_with (go_at_call 43; refine (rest_at l _ p b _ hs ha hr (by simpa using h0) (by simpa using h2)).mono ?_; rintro e w' ⟨rfl, q, rfl⟩)
    go_ret
    exact ⟨rfl, _, rfl⟩
  · have lo := u8_lo c
    have hi := u8_hi c
    by_cases hc : (c.toNat : Int) = 35
    all_goals
      go_enter Tryd.func41, Tryd.ntmps41
      go_wp2_with (go_at_call 43; refine (rest_at l _ p b _ hs ha hr (by simpa using h0) (by simpa using h2)).mono ?_; rintro e w' ⟨rfl, q, rfl⟩)
      go_ret
      exact ⟨ret_bool (by show ((c.toNat : Int) == 35) = decide ((c.toNat : Int) = 35); simp [hc]), _, rfl⟩
def skpF (l : List UInt8) (p : Nat) : Nat := l.length - (Lib.trimLeftB (l.drop p) 32).length
theorem skpF_le (l : List UInt8) (p : Nat) : skpF l p ≤ l.length := Nat.sub_le _ _
set_option maxHeartbeats 4000000 in
theorem skip_any (l : List UInt8) (num : Int) (p b : Nat) (tv : Value) (w : World) (hs : l.length ≤ 2 ^ 62) (ha : p ≤ l.length)
    (hb : w.heap[b]? = some (.cells #[.string ⟨l.toArray⟩, .int .i64 num, .int .i64 p, tv] 68 (0, 0))) :
    Calls Tryd.prog 40 #[.pointer (some ⟨b, 0, none⟩)] w fun e w' => e = .returned (.tuple #[]) ∧ ∃ q, w' = (w.drewN q).setCell ⟨b, 2, none⟩ (.int .i64 (skpF l p)) := by
  have h0 : w.cell? ⟨b, 0, none⟩ = some (.string ⟨l.toArray⟩) := cell_of hb 0 _ rfl
  have h2 : w.cell? ⟨b, 2, none⟩ = some (.int .i64 p) := cell_of hb 2 _ rfl
  have hf : w.frozen? ⟨b, 2, none⟩ = false := by simp [World.frozen?, hb]
  have hpl := past_len (l.drop p)
  obtain ⟨r, hr⟩ : ∃ r, Lib.trimLeftB (l.drop p) 32 = r := ⟨_, rfl⟩
  have hrl : r.length ≤ l.length := by rw [← hr]; exact Nat.le_trans hpl (by simp)
  have HK : Hid (skpF l p = l.length - r.length) := by show _ = _; rw [skpF, hr]
  obtain ⟨d, hd⟩ : ∃ d, l.drop p = d := ⟨_, rfl⟩
  rw [hd] at hr
  have HD : Hid (l.drop p = d) := hd
  have HR : Hid (Lib.trimLeftB d 32 = r) := hr
  clear hd hr hpl
  have H0 : Hid (w.cell? ⟨b, 0, none⟩ = some (.string ⟨l.toArray⟩)) := h0
  have H2 : Hid (w.cell? ⟨b, 2, none⟩ = some (.int .i64 p)) := h2
  go_enter Tryd.func40, Tryd.ntmps40
  have hwr : IntKind.i64.wrap ((l.length : Int) - r.length) = ((l.length - r.length : Nat) : Int) := by
    rw [IntWalk.i64_in _ (by omega)]; omega
  have hso : ∀ (W : World) (v : Value), (W.setCell ⟨b, 2, none⟩ v).cell? ⟨b, 0, none⟩ = W.cell? ⟨b, 0, none⟩ := fun W v => World.cell?_setCell_other W _ _ v (by simp)
  go_region_held3 (fun w' => w'.cell? ⟨b, 0, none⟩ = some (.string ⟨l.toArray⟩)) (go_keep) (first
    | (go_at_call 43; refine (rest_at l _ p b _ hs ha HD.out (by simpa using H0.out) (by simpa using H2.out)).mono ?_; rintro e w' ⟨rfl, q, rfl⟩)
    | (go_at_call 58; refine (past_at _ _ _ HR.out).mono ?_; rintro e w' ⟨rfl, rfl⟩))
  refine bodyPost_end (results_none rfl _ _ _) rfl ?_
  exact ⟨rfl, _, by rw [HK.out]⟩
theorem rd_drew {w : World} {base b : Nat} {l : List UInt8} {num : Int} {p : Nat} {tv : Value} {ts : List Tk} (h : Rd w base b l num p tv ts) (q : Nat) : Rd (w.drewN q) base b l num p tv ts :=
  ⟨by simpa using h.blk, own_blk h.own (fun k hk => by simp), h.low⟩
theorem rd_at {w : World} {base b : Nat} {l : List UInt8} {num : Int} {p : Nat} {tv : Value} {ts : List Tk} (h : Rd w base b l num p tv ts) (p' : Nat) : Rd (w.setCell ⟨b, 2, none⟩ (.int .i64 p')) base b l num p' tv ts :=
  ⟨heap_setCell_same w b 2 _ _ _ h.blk, own_blk h.own (fun k hk => heap_setCell_other _ _ _ _ (fun e => own_not h.own h.blk (by decide) (by rw [hk]; subst e; rfl))), h.low⟩
end Go.Proofs.YtjmgngocpokpgaaDoor
