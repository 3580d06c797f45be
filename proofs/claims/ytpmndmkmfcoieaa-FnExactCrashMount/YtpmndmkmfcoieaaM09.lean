/- Lists of bytes and lists of these: how they read, what they own. No program is named here. The walks of the laws' functions over bytes and lists of bytes. File systems: a list of inodes and a list of lists of bytes; the walks of the laws' functions over them. What an inode's fault is. No program is named here. Words that grow by append; what PackInode answers. Which blocks are used and which are free. No program is named here. BlocksFor. The specification's InodeFault. The specification's l4File. The specification's l4Dir and l4Fault. The specification's InodeFault. The specification's functions over lists of inodes. The specification's counts. The specification's other counts and places. The specification's lists of blocks. The specification: what is wrong of inodes, data and entries of a file system. The specification: what is wrong of inodes, data and entries of a file system, the rest. The specification: which places can be reached. The specification's l4Pack. The program's InodeFault. The program's InodeFault: its kinds. The program's InodeFault. PackInode, both sides. The specification's UsedBlocks, FreeBlocks, PickBlocks and FreeInode. The specification's LinksOf. The specification: are links and places right? The specification: has each block just the bytes that it should have? -/
import Derived.Test.YtpmndmkmfcoieaaM00
import Derived.Test.YtpmndmkmfcoieaaM05
import Derived.Test.YtpmndmkmfcoieaaM01
import Derived.Test.YtpmndmkmfcoieaaM08
import Derived.Test.YtpmndmkmfcoieaaM06
import Derived.Test.YtpmndmkmfcoieaaM07
import Derived.Test.YtpmndmkmfcoieaaM02
import Derived.Laws.Cover1
import Derived.Deep.RegionHeld3
namespace Go.Proofs.Ytpmndmkmfcoieaa
open Go.RowKit
set_option maxRecDepth 100000

def byteV (b : UInt8) : Value := .int .u8 ((b.toNat : Nat) : Int)
def AtY (w : World) (a : Option Addr) (n : Nat) (zs : List UInt8) : Prop := ∀ k, k < n → ∃ b off, a = some ⟨b, off, none⟩ ∧ w.cell? ⟨b, off + k, none⟩ = some (.int .u8 (((zs[k]?.getD 0).toNat : Nat) : Int))
theorem AtY.later {w w' : World} {a : Option Addr} {n : Nat} {zs : List UInt8} (h : AtY w a n zs) (hb : Below w.heap.size w w') : AtY w' a n zs := fun k hk => by
  obtain ⟨b, off, e, c⟩ := h k hk
  exact ⟨b, off, e, cell_later hb c⟩
/-- The slice v reads as the bytes zs. -/
def Byt (w : World) (v : Value) (zs : List UInt8) : Prop := ∃ a cap, v = .slice a zs.length cap ∧ (zs.length ≤ maxLen ∧ zs.length ≤ cap) ∧ AtY w a zs.length zs
theorem Byt.later {w w' : World} {v : Value} {zs : List UInt8} (h : Byt w v zs) (hb : Below w.heap.size w w') : Byt w' v zs := by
  obtain ⟨a, cap, h1, h2, h3⟩ := h
  exact ⟨a, cap, h1, h2, h3.later hb⟩
theorem Byt.nil (w : World) (a : Option Addr) (cap : Nat) : Byt w (.slice a 0 cap) [] := ⟨a, cap, rfl, ⟨by simp, by simp⟩, fun k hk => by simp at hk⟩
/-- .. in one block of F. -/
def BytO (w : World) (v : Value) (zs : List UInt8) (F : Nat → Prop) : Prop :=
  (zs = [] ∧ ∃ a cap, v = .slice a 0 cap) ∨
  (∃ b cap, F b ∧ v = .slice (some ⟨b, 0, none⟩) zs.length cap ∧ (zs.length ≤ maxLen ∧ zs.length ≤ cap) ∧ OwnRow w b zs.length (fun i => .int .u8 (((zs[i]?.getD 0).toNat : Nat) : Int)))
theorem BytO.reads {w : World} {v : Value} {zs : List UInt8} {F : Nat → Prop} (h : BytO w v zs F) : Byt w v zs := by
  rcases h with ⟨rfl, a, cap, rfl⟩ | ⟨b, cap, _, h1, h2, h3⟩
  · exact Byt.nil w a cap
  · exact ⟨_, cap, h1, h2, fun k hk => ⟨b, 0, rfl, by rw [Nat.zero_add]; exact h3.cell hk⟩⟩
theorem BytO.keep {w w' : World} {v : Value} {zs : List UInt8} {F : Nat → Prop} (h : BytO w v zs F) (e : ∀ b, F b → b < w.heap.size → w'.heap[b]? = w.heap[b]?) : BytO w' v zs F := by
  rcases h with h | ⟨b, cap, hF, h1, h2, h3⟩
  · exact Or.inl h
  · exact Or.inr ⟨b, cap, hF, h1, h2, h3.block (e b hF h3.lt)⟩
theorem BytO.mono {w : World} {v : Value} {zs : List UInt8} {F G : Nat → Prop} (h : BytO w v zs F) (e : ∀ b, F b → G b) : BytO w v zs G := by
  rcases h with h | ⟨b, cap, hF, h1⟩
  · exact Or.inl h
  · exact Or.inr ⟨b, cap, e b hF, h1⟩
theorem BytO.bound {w : World} {v : Value} {zs : List UInt8} {F : Nat → Prop} (h : BytO w v zs F) : BytO w v zs (fun b => F b ∧ b < w.heap.size) := by
  rcases h with h | ⟨b, cap, hF, h1, h2, h3⟩
  · exact Or.inl h
  · exact Or.inr ⟨b, cap, ⟨hF, h3.lt⟩, h1, h2, h3⟩
theorem BytO.later {w w' : World} {v : Value} {zs : List UInt8} {F : Nat → Prop} (h : BytO w v zs F) (hb : Below w.heap.size w w') : BytO w' v zs F := h.keep fun b _ hlt => hb.block b hlt
theorem BytO.chg {w w' : World} {v : Value} {zs : List UInt8} {F G : Nat → Prop} (h : BytO w v zs F) (hc : Chg G w w') (hd : ∀ b, F b → ¬ G b) : BytO w' v zs F := h.keep fun b hb hlt => hc.block b hlt (hd b hb)

/-- Where lists of bytes lie. -/
def AtYs (w : World) (a : Option Addr) (n : Nat) (zss : List (List UInt8)) : Prop :=
  ∀ k, k < n → ∃ b off ua uc, a = some ⟨b, off, none⟩ ∧ w.cell? ⟨b, off + k, none⟩ = some (.slice ua (zss[k]?.getD []).length uc) ∧ Byt w (.slice ua (zss[k]?.getD []).length uc) (zss[k]?.getD [])
theorem AtYs.later {w w' : World} {a : Option Addr} {n : Nat} {zss : List (List UInt8)} (h : AtYs w a n zss) (hb : Below w.heap.size w w') : AtYs w' a n zss := fun k hk => by
  obtain ⟨b, off, ua, uc, e, c, r⟩ := h k hk
  exact ⟨b, off, ua, uc, e, cell_later hb c, r.later hb⟩
/-- The slice v reads as the lists of bytes zss. -/
def Byts (w : World) (v : Value) (zss : List (List UInt8)) : Prop := ∃ a cap, v = .slice a zss.length cap ∧ (zss.length ≤ maxLen ∧ zss.length ≤ cap) ∧ AtYs w a zss.length zss
theorem Byts.later {w w' : World} {v : Value} {zss : List (List UInt8)} (h : Byts w v zss) (hb : Below w.heap.size w w') : Byts w' v zss := by
  obtain ⟨a, cap, h1, h2, h3⟩ := h
  exact ⟨a, cap, h1, h2, h3.later hb⟩
theorem Byts.nil (w : World) (a : Option Addr) (cap : Nat) : Byts w (.slice a 0 cap) [] := ⟨a, cap, rfl, ⟨by simp, by simp⟩, fun k hk => by simp at hk⟩
theorem Byts.open' {w : World} {v : Value} {zss : List (List UInt8)} (h : Byts w v zss) : ∃ a cap, v = .slice a zss.length cap ∧ (zss.length ≤ maxLen ∧ zss.length ≤ cap) ∧ AtYs w a zss.length zss := h
/-- .. each in a block of its own. -/
def BytsO (w : World) (v : Value) (zss : List (List UInt8)) (F : Nat → Prop) : Prop :=
  (zss = [] ∧ ∃ a cap, v = .slice a 0 cap) ∨
  (∃ b cap, ∃ u : Nat → Value, ∃ G : Nat → Nat → Prop, F b ∧ (∀ i c, G i c → F c ∧ c ≠ b) ∧ (∀ i j c, i ≠ j → G i c → ¬ G j c) ∧
    v = .slice (some ⟨b, 0, none⟩) zss.length cap ∧ (zss.length ≤ maxLen ∧ zss.length ≤ cap) ∧ OwnRow w b zss.length u ∧ ∀ i, i < zss.length → BytO w (u i) (zss[i]?.getD []) (G i))
theorem BytsO.reads {w : World} {v : Value} {zss : List (List UInt8)} {F : Nat → Prop} (h : BytsO w v zss F) : Byts w v zss := by
  rcases h with ⟨rfl, a, cap, rfl⟩ | ⟨b, cap, u, G, _, _, _, h1, h2, h3, h4⟩
  · exact Byts.nil w a cap
  · refine ⟨_, cap, h1, h2, fun k hk => ?_⟩
    have hr := (h4 k hk).reads
    obtain ⟨ua, uc, e, h5, h6⟩ := hr
    have hc := h3.cell hk
    rw [e] at hc
    exact ⟨b, 0, ua, uc, rfl, by rw [Nat.zero_add]; exact hc, ua, uc, rfl, h5, h6⟩
theorem BytsO.keep {w w' : World} {v : Value} {zss : List (List UInt8)} {F : Nat → Prop} (h : BytsO w v zss F) (e : ∀ b, F b → b < w.heap.size → w'.heap[b]? = w.heap[b]?) : BytsO w' v zss F := by
  rcases h with h | ⟨b, cap, u, G, hF, hG, hGG, h1, h2, h3, h4⟩
  · exact Or.inl h
  · exact Or.inr ⟨b, cap, u, G, hF, hG, hGG, h1, h2, h3.block (e b hF h3.lt), fun i hi => (h4 i hi).keep fun c hc => e c (hG i c hc).1⟩
theorem BytsO.mono {w : World} {v : Value} {zss : List (List UInt8)} {F F' : Nat → Prop} (h : BytsO w v zss F) (e : ∀ b, F b → F' b) : BytsO w v zss F' := by
  rcases h with h | ⟨b, cap, u, G, hF, hG, h1⟩
  · exact Or.inl h
  · exact Or.inr ⟨b, cap, u, G, e b hF, fun i c hc => ⟨e c (hG i c hc).1, (hG i c hc).2⟩, h1⟩
theorem BytsO.bound {w : World} {v : Value} {zss : List (List UInt8)} {F : Nat → Prop} (h : BytsO w v zss F) : BytsO w v zss (fun b => F b ∧ b < w.heap.size) := by
  rcases h with h | ⟨b, cap, u, G, hF, hG, hGG, h1, h2, h3, h4⟩
  · exact Or.inl h
  · exact Or.inr ⟨b, cap, u, fun i c => G i c ∧ c < w.heap.size, ⟨hF, h3.lt⟩, fun i c hc => ⟨⟨(hG i c hc.1).1, hc.2⟩, (hG i c hc.1).2⟩, fun i j c e hc hc' => hGG i j c e hc.1 hc'.1, h1, h2, h3, fun i hi => (h4 i hi).bound⟩
theorem BytsO.later {w w' : World} {v : Value} {zss : List (List UInt8)} {F : Nat → Prop} (h : BytsO w v zss F) (hb : Below w.heap.size w w') : BytsO w' v zss F := h.keep fun b _ hlt => hb.block b hlt
theorem BytsO.chg {w w' : World} {v : Value} {zss : List (List UInt8)} {F G : Nat → Prop} (h : BytsO w v zss F) (hc : Chg G w w') (hd : ∀ b, F b → ¬ G b) : BytsO w' v zss F := h.keep fun b hb hlt => hc.block b hlt (hd b hb)
def ylens (zss : List (List UInt8)) : List Nat := zss.map List.length
theorem ylens_length (zss : List (List UInt8)) : (ylens zss).length = zss.length := by simp [ylens]
theorem ylens_get (zss : List (List UInt8)) (i : Nat) : (ylens zss)[i]?.getD 0 = (zss[i]?.getD []).length := by
  unfold ylens; rw [List.getElem?_map]; cases zss[i]? <;> rfl
def sizeByts (zss : List (List UInt8)) : Nat := zss.length + (ylens zss).sum
theorem ylens_le (zss : List (List UInt8)) (k : Nat) : (zss[k]?.getD []).length ≤ (ylens zss).sum := by
  by_cases h : k < zss.length
  · have h1 := upto_succ (ylens zss) k (by rw [ylens_length]; exact h)
    rw [ylens_get] at h1
    have h2 := upto_le (ylens zss) (k + 1)
    omega
  · rw [List.getElem?_eq_none (by omega)]; simp

/-- The first j lists stand, list i in the blocks from s i up to s (i + 1), none below lo. -/
structure BuiltY (w : World) (lo j : Nat) (u : Nat → Value) (f : Nat → List UInt8) (s : Nat → Nat) : Prop where
  lo : lo ≤ s 0
  mono : ∀ i, i < j → s i ≤ s (i + 1)
  hi : s j ≤ w.heap.size
  at' : ∀ i, i < j → BytO w (u i) (f i) (fun b => s i ≤ b ∧ b < s (i + 1))
theorem BuiltY.nil {w : World} {lo : Nat} (u : Nat → Value) (f : Nat → List UInt8) (h : lo ≤ w.heap.size) : BuiltY w lo 0 u f (fun _ => w.heap.size) :=
  ⟨h, fun i hi => by omega, Nat.le_refl _, fun i hi => by omega⟩
theorem BuiltY.le {w : World} {lo j : Nat} {u : Nat → Value} {f : Nat → List UInt8} {s : Nat → Nat} (h : BuiltY w lo j u f s) : ∀ i k, i ≤ k → k ≤ j → s i ≤ s k := by
  intro i k hik
  induction k with
  | zero => intro _; have : i = 0 := by omega
            subst this; exact Nat.le_refl _
  | succ k ih =>
    intro hk
    by_cases e : i = k + 1
    · subst e; exact Nat.le_refl _
    · exact Nat.le_trans (ih (by omega) (by omega)) (h.mono k (by omega))
theorem BuiltY.low {w : World} {lo j : Nat} {u : Nat → Value} {f : Nat → List UInt8} {s : Nat → Nat} (h : BuiltY w lo j u f s) (i : Nat) (hi : i ≤ j) : lo ≤ s i := Nat.le_trans h.lo (h.le 0 i (Nat.zero_le _) hi)
theorem BuiltY.keep {w w' : World} {lo j : Nat} {u : Nat → Value} {f : Nat → List UInt8} {s : Nat → Nat} (h : BuiltY w lo j u f s) (hs : w.heap.size ≤ w'.heap.size) (e : ∀ b, lo ≤ b → b < w.heap.size → w'.heap[b]? = w.heap[b]?) : BuiltY w' lo j u f s :=
  ⟨h.lo, h.mono, Nat.le_trans h.hi hs, fun i hi => (h.at' i hi).keep fun b hb hlt => e b (Nat.le_trans (h.low i (by omega)) hb.1) hlt⟩
theorem BuiltY.later {w w' : World} {lo j : Nat} {u : Nat → Value} {f : Nat → List UInt8} {s : Nat → Nat} (h : BuiltY w lo j u f s) (hb : Below w.heap.size w w') : BuiltY w' lo j u f s := h.keep hb.size fun b _ hlt => hb.block b hlt
theorem BuiltY.store {w : World} {lo j : Nat} {u : Nat → Value} {f : Nat → List UInt8} {s : Nat → Nat} (h : BuiltY w lo j u f s) {p : Addr} (hp : p.block < lo) (v : Value) : BuiltY (w.setCell p v) lo j u f s :=
  h.keep (by simp [World.setCell]) fun b hb _ => Below.heap_setCell _ _ _ _ (by omega)
theorem BuiltY.next {w w' : World} {lo j : Nat} {u : Nat → Value} {f : Nat → List UInt8} {s : Nat → Nat} {v : Value} (h : BuiltY w lo j u f s) (hb : Below w.heap.size w w') (hv : BytO w' v (f j) (fresh w w')) :
    BuiltY w' lo (j + 1) (fun i => if i = j then v else u i) f (fun i => if i ≤ j then s i else w'.heap.size) := by
  have h' := h.later hb
  have en : ∀ i : Nat, ¬ i + 1 ≤ i := fun i => by omega
  refine ⟨by simpa using h.lo, fun i hi => ?_, by simp [en], fun i hi => ?_⟩
  · by_cases e : i = j
    · subst e; simp [en]; exact h'.hi
    · simp [show i ≤ j by omega, show i + 1 ≤ j by omega]; exact h.mono i (by omega)
  · by_cases e : i = j
    · subst e
      simp [en]
      exact hv.mono fun b hb => ⟨Nat.le_trans h.hi hb.1, hb.2⟩
    · simp [e, show i ≤ j by omega, show i + 1 ≤ j by omega]
      exact h'.at' i (by omega)
theorem BuiltY.apart {w : World} {lo n : Nat} {u : Nat → Value} {f : Nat → List UInt8} {s : Nat → Nat} (h : BuiltY w lo n u f s) (i j c : Nat) (e : i ≠ j) (h1 : i < n ∧ s i ≤ c ∧ c < s (i + 1)) (h2 : j < n ∧ s j ≤ c ∧ c < s (j + 1)) : False := by
  rcases Nat.lt_or_gt_of_ne e with h3 | h3
  · have := h.le (i + 1) j (by omega) (by omega); omega
  · have := h.le (j + 1) i (by omega) (by omega); omega
theorem BuiltY.byts {w : World} {lo n b cap : Nat} {u : Nat → Value} {s : Nat → Nat} (zss : List (List UInt8)) (h : BuiltY w lo n u (fun i => zss[i]?.getD []) s) (hn : zss.length = n) (hm : n ≤ maxLen ∧ n ≤ cap) (hb : b < lo) (hr : OwnRow w b n u) (F : Nat → Prop) (hF : F b) (hF' : ∀ c, lo ≤ c → c < w.heap.size → F c) :
    BytsO w (.slice (some ⟨b, 0, none⟩) n cap) zss F := by
  subst hn
  refine Or.inr ⟨b, cap, u, fun i c => i < zss.length ∧ s i ≤ c ∧ c < s (i + 1), hF, fun i c hc => ?_, fun i j c e h1 h2 => h.apart i j c e h1 h2, rfl, hm, hr, fun i hi => ?_⟩
  · have h1 := h.low i (by omega)
    have h2 := h.le (i + 1) zss.length (by omega) (Nat.le_refl _)
    have h3 := h.hi
    exact ⟨hF' c (by omega) (by omega), by omega⟩
  · exact (h.at' i hi).mono fun c hc => ⟨hi, hc⟩
end Go.Proofs.Ytpmndmkmfcoieaa

namespace Go.Proofs.Ytpmndmkmfcoieaa
open Go.RowKit
set_option maxRecDepth 100000

theorem Try.infoU8 : (Try.prog.info? 5).map (fun i => (i.zero, i.size, i.bytes)) = some (some (.int .u8 0), 1, 1) := by kernel_rfl
end Go.Proofs.Ytpmndmkmfcoieaa

namespace Go.Proofs.Ytpmndmkmfcoieaa
open Go.RowKit
set_option maxRecDepth 100000

/-- File systems. -/
abbrev FD := List ID × List (List UInt8)
def FsR (w : World) (v1 v2 : Value) (d : FD) : Prop := Inos w v1 d.1 ∧ Byts w v2 d.2
theorem FsR.later {w w' : World} {v1 v2 : Value} {d : FD} (h : FsR w v1 v2 d) (hb : Below w.heap.size w w') : FsR w' v1 v2 d := ⟨h.1.later hb, h.2.later hb⟩
def FsU (w : World) (v1 v2 : Value) (d : FD) (F : Nat → Prop) : Prop := ∃ F1 G1 : Nat → Prop, InosO w v1 d.1 F1 ∧ BytsO w v2 d.2 G1 ∧ (∀ b, F1 b → ¬ G1 b) ∧ ∀ b, F1 b ∨ G1 b → F b
theorem FsU.reads {w : World} {v1 v2 : Value} {d : FD} {F : Nat → Prop} (h : FsU w v1 v2 d F) : FsR w v1 v2 d := by
  obtain ⟨_, _, h1, h2, _⟩ := h
  exact ⟨h1.reads, h2.reads⟩
theorem FsU.keep {w w' : World} {v1 v2 : Value} {d : FD} {F : Nat → Prop} (h : FsU w v1 v2 d F) (e : ∀ b, F b → b < w.heap.size → w'.heap[b]? = w.heap[b]?) : FsU w' v1 v2 d F := by
  obtain ⟨F1, G1, h1, h2, hd, hf⟩ := h
  exact ⟨F1, G1, h1.keep fun b hb => e b (hf b (Or.inl hb)), h2.keep fun b hb => e b (hf b (Or.inr hb)), hd, hf⟩
theorem FsU.later {w w' : World} {v1 v2 : Value} {d : FD} {F : Nat → Prop} (h : FsU w v1 v2 d F) (hb : Below w.heap.size w w') : FsU w' v1 v2 d F := h.keep fun b _ hlt => hb.block b hlt
theorem FsU.mono {w : World} {v1 v2 : Value} {d : FD} {F G : Nat → Prop} (h : FsU w v1 v2 d F) (e : ∀ b, F b → G b) : FsU w v1 v2 d G := by
  obtain ⟨F1, G1, h1, h2, hd, hf⟩ := h
  exact ⟨F1, G1, h1, h2, hd, fun b hb => e b (hf b hb)⟩
theorem FsU.chg {w w' : World} {v1 v2 : Value} {d : FD} {F G : Nat → Prop} (h : FsU w v1 v2 d F) (hc : Chg G w w') (hd : ∀ b, F b → ¬ G b) : FsU w' v1 v2 d F := h.keep fun b hb hlt => hc.block b hlt (hd b hb)
def sizeFs (d : FD) : Nat := sizeInos d.1 + sizeByts d.2
def spanFs (d : FD) : Nat := spanInos d.1 + (ylens d.2).sum
theorem spanFs_le (d : FD) : spanFs d ≤ 3 * sizeFs d := by
  have := spanInos_le d.1
  unfold spanFs sizeFs sizeByts
  omega

end Go.Proofs.Ytpmndmkmfcoieaa

namespace Go.Proofs.Ytpmndmkmfcoieaa
open Go.RowKit
set_option maxRecDepth 100000

/-- The first of f 0 .. f (n - 1) that is not 0, or 0. -/
def fstNZ (f : Nat → Int) : Nat → Int
  | 0 => 0
  | n + 1 => if fstNZ f n = 0 then f n else fstNZ f n
theorem fstNZ_zero {f : Nat → Int} : ∀ {n : Nat}, (∀ i, i < n → f i = 0) → fstNZ f n = 0
  | 0, _ => rfl
  | n + 1, h => by
    show (if fstNZ f n = 0 then f n else fstNZ f n) = 0
    rw [if_pos (fstNZ_zero fun i hi => h i (by omega))]
    exact h n (by omega)
theorem fstNZ_at {f : Nat → Int} {j : Nat} (h : ∀ i, i < j → f i = 0) (hj : ¬ f j = 0) : ∀ {n : Nat}, j < n → fstNZ f n = f j
  | 0, hn => by omega
  | n + 1, hn => by
    show (if fstNZ f n = 0 then f n else fstNZ f n) = f j
    by_cases e : j = n
    · subst e
      rw [if_pos (fstNZ_zero h)]
    · have := fstNZ_at h hj (n := n) (by omega)
      rw [this, if_neg hj]
theorem fstNZ_inv {f : Nat → Int} : ∀ {n : Nat}, fstNZ f n = 0 → ∀ i, i < n → f i = 0
  | 0, _, i, hi => by omega
  | n + 1, h, i, hi => by
    have h' : (if fstNZ f n = 0 then f n else fstNZ f n) = 0 := h
    by_cases e : fstNZ f n = 0
    · rw [if_pos e] at h'
      by_cases e2 : i = n
      · rw [e2]; exact h'
      · exact fstNZ_inv e i (by omega)
    · rw [if_neg e] at h'; exact absurd h' e

def rngF (bs : List Int) (i : Nat) : Int := if 0 ≤ bs[i]?.getD 0 ∧ bs[i]?.getD 0 ≤ 19 then 0 else 3
/-- Whether one ahead of i is the same. -/
def dupB (bs : List Int) (i : Nat) : Bool := (List.range i).any fun k => bs[k]?.getD 0 == bs[i]?.getD 0
def dupF (bs : List Int) (i : Nat) : Int := if dupB bs i then 7 else 0
theorem dupB_yes {bs : List Int} {i k : Nat} (hk : k < i) (e : bs[k]?.getD 0 = bs[i]?.getD 0) : dupB bs i = true := by
  unfold dupB; rw [List.any_eq_true]; exact ⟨k, by simpa using hk, by simp [e]⟩
theorem dupB_no {bs : List Int} {i : Nat} (h : ∀ k, k < i → ¬ bs[k]?.getD 0 = bs[i]?.getD 0) : dupB bs i = false := by
  unfold dupB; rw [List.any_eq_false]; intro k hk; simp at hk; simp [h k hk]
def blkF (bs : List Int) : Int := if fstNZ (rngF bs) bs.length = 0 then fstNZ (dupF bs) bs.length else fstNZ (rngF bs) bs.length
def linkB (x : Int) : Bool := decide (1 ≤ x ∧ x ≤ 60)
def sizeB (x : Int) : Bool := decide (0 ≤ x ∧ x ≤ 32)
/-- BlocksFor. -/
def bforR (x : Int) : Int × Int := if sizeB x then (0, (x + 7) / 8) else (3, 0)
def fileF (l s : Int) (bs : List Int) : Int := if linkB l = true ∧ sizeB s = true then (if (bs.length : Int) = (s + 7) / 8 then blkF bs else 1) else 3
/-- One text is not above another. -/
def strLe (a b : ByteArray) : Bool := Op.bytesLess a.toList b.toList || a.toList == b.toList
def entF (es : List EN) (i : Nat) : Int := if nameF (es[i]?.getD en0).1 = 0 then (if 0 ≤ (es[i]?.getD en0).2 ∧ (es[i]?.getD en0).2 ≤ 9 then (if 0 < i ∧ strLe (es[i]?.getD en0).1 (es[i - 1]?.getD en0).1 = true then 1 else 0) else 3) else nameF (es[i]?.getD en0).1
def dirF (es : List EN) : Int := if 6 < es.length then 2 else fstNZ (entF es) es.length
/-- What a file alone has, and what a directory alone has. -/
def fpB (d : ID) : Bool := decide (d.2.1 ≠ 0) || decide (d.2.2.1 ≠ 0) || decide (0 < d.2.2.2.1.length)
def dpB (d : ID) : Bool := decide (0 < d.2.2.2.2.length)
def inoF (d : ID) : Int := if d.1 = 0 then (if fpB d || dpB d then 1 else 0) else if d.1 = 1 then (if dpB d then 1 else fileF d.2.1 d.2.2.1 d.2.2.2.1) else if d.1 = 2 then (if fpB d then 1 else dirF d.2.2.2.2) else 1
end Go.Proofs.Ytpmndmkmfcoieaa

namespace Go.Proofs.Ytpmndmkmfcoieaa
open Go.RowKit
set_option maxRecDepth 100000

def intV (z : Int) : Value := .int .i64 z
/-- Words in memory that the call made since n₀. -/
def Wds (w : World) (n₀ : Nat) (v : Value) (zs : List Int) : Prop := w.ownsRow n₀ 2 1 v zs.length (zs.map intV)
theorem Wds.later {w w' : World} {n₀ : Nat} {v : Value} {zs : List Int} (h : Wds w n₀ v zs) (hb : Below w.heap.size w w') : Wds w' n₀ v zs := ownsRow_later h hb
theorem Wds.shape {w : World} {n₀ : Nat} {v : Value} {zs : List Int} (h : Wds w n₀ v zs) : ∃ a c, v = .slice a zs.length c := ownsRow_shape h
theorem Wds.lit (w : World) (n₀ : Nat) (hn : n₀ ≤ w.heap.size) (zs : List Int) (arr : Array Value) (he : arr = (zs.map intV).toArray) (n : Nat) (hz : zs.length = n) (hm : n ≤ 1048576) : Wds (w.alloc (.cells arr 2)) n₀ (.slice (some ⟨w.heap.size, 0, none⟩) n n) zs := by
  subst he
  subst hz
  have := World.ownsRow_lit (e := 2) (size := 1) w (zs.map intV).toArray zs.length hn (by unfold maxLen; omega) (by simp)
  simpa [Wds] using this
/-- Blocks of other types than words' stand as they did. -/
def KeepT (w w' : World) : Prop := ∀ (b : Nat) (c : Array Value) (t : TypeId) (fr : Nat × Nat), t ≠ 2 → w.heap[b]? = some (Obj.cells c t fr) → w'.heap[b]? = some (Obj.cells c t fr)
theorem KeepT.refl (w : World) : KeepT w w := fun _ _ _ _ _ h => h
theorem KeepT.trans {a b c : World} (h : KeepT a b) (k : KeepT b c) : KeepT a c := fun i cs t fr ht hi => k i cs t fr ht (h i cs t fr ht hi)
theorem KeepT.later {w w' : World} (hb : Below w.heap.size w w') : KeepT w w' := fun b _ _ _ _ h => (hb.block b (Array.getElem?_eq_some_iff.1 h).1).trans h
theorem KeepT.grown {w w' : World} {n₀ : Nat} {v : Value} {zs : List Int} (h : Wds w n₀ v zs) (hg : w.grownBy w' v.ownBlock) : KeepT w w' := fun b c t fr ht hb => by
  refine (hg.block b (Array.getElem?_eq_some_iff.1 hb).1 fun e => ?_).trans hb
  rcases h.2 with ⟨rfl, _⟩ | ⟨g, cap, cur, rfl, _, hh, _⟩
  · simp [Value.ownBlock] at e
  · simp only [Value.ownBlock, Option.some.injEq] at e
    subst e
    rw [hh] at hb
    simp only [Option.some.injEq, Obj.cells.injEq] at hb
    exact ht hb.2.1.symm
theorem append_any (w : World) (n₀ : Nat) (v : Value) (zs ys : List Int) (a : Option Addr) (m c : Nat) (hrow : Wds w n₀ v zs) (hn₀ : n₀ ≤ w.heap.size) (hm : ys.length = m) (hz : zs.length ≤ 16777216) (hy : m ≤ 1048576) (hc : At1 w a m (fun k => .int .i64 (ys[k]?.getD 0))) (hnn : ∃ g cap, v = .slice (some ⟨g, 0, none⟩) zs.length cap ∧ n₀ ≤ g) :
    ∃ v' X, (Builtin.append_ #[56, 56] 56 #[v, .slice a m c]).run Try.prog w = .ok v' X ∧ Wds X n₀ v' (zs ++ ys) ∧ Below n₀ w X ∧ KeepT w X := by
  obtain ⟨i, hi, h1, h2, h3⟩ := Try.infoInt'
  obtain ⟨g, cap, rfl, hg0⟩ := hnn
  by_cases ha : a = none
  · subst ha
    have h0 : m = 0 := by
      by_cases h : m = 0
      · exact h
      · obtain ⟨_, _, e, _⟩ := hc 0 (by omega); cases e
    subst h0
    have hys : ys = [] := List.eq_nil_of_length_eq_zero hm
    subst hys
    have hlc : zs.length ≤ cap := by
      rcases hrow.2 with ⟨e, _⟩ | ⟨g', cap', cur, e, _, _, hnc, _⟩
      · cases e
      · simp only [Value.slice.injEq] at e
        rw [e.2.2]; exact hnc
    refine ⟨.slice (some ⟨g, 0, none⟩) zs.length cap, w, ?_, by rw [List.append_nil]; exact hrow, Below.refl _ _, KeepT.refl _⟩
    simp [Builtin.append_, run_underlying Try.underlying56, sizeOf, typeInfo, hi, Builtin.lenOf, Builtin.firstCells, storeCells, hlc]
  · obtain ⟨ad, rfl⟩ := Option.ne_none_iff_exists'.1 ha
    obtain ⟨v', X, hr, ho, hg, _⟩ := run_append_own (P := Try.prog) w n₀ 56 56 2 i (.int .i64 0) 1 8 Try.underlying56 hi h1 h2 h3 rfl (by decide) _ zs.length _ hrow ad m c (ys.map intV)
      (by simp [hm]) (fun j u hu => by
        rw [List.getElem?_map, Option.map_eq_some_iff] at hu
        obtain ⟨z, hz1, rfl⟩ := hu
        have hj : j < m := by rw [← hm]; exact (List.getElem?_eq_some_iff.1 hz1).1
        obtain ⟨b, off, e, h⟩ := hc j hj
        simp only [Option.some.injEq] at e
        rw [e, add_plain']
        replace h : w.cell? ⟨b, off + j, none⟩ = some (.int .i64 (ys[j]?.getD 0)) := h
        rw [hz1, Option.getD_some] at h
        exact h) (fun u hu => by
        obtain ⟨z, _, rfl⟩ := List.mem_map.1 hu
        rfl) (by unfold maxLen; omega) (by omega) hn₀
    refine ⟨v', X, hr, ?_, below_grown hg hn₀ (fun k hk => ?_), KeepT.grown hrow hg⟩
    · unfold Wds
      rw [List.length_append, List.map_append, hm]
      exact ho
    · simp [Value.ownBlock] at hk; omega
/-- Words that were appended are never nil. -/
theorem Wds.some {w : World} {n₀ : Nat} {v : Value} {zs : List Int} (h : Wds w n₀ v zs) (h0 : 0 < zs.length) : ∃ g cap, v = .slice (some ⟨g, 0, none⟩) zs.length cap ∧ n₀ ≤ g := by
  obtain ⟨g, cap, h1, h2, _⟩ := ownsRow_row h h0
  exact ⟨g, cap, h1, h2⟩
theorem Wds.own {w w0 : World} {n₀ : Nat} {v : Value} {zs : List Int} (h : Wds w n₀ v zs) (h0 : 0 < zs.length) (hn : w0.heap.size ≤ n₀) : IntsO w v zs (fresh w0 w) := by
  obtain ⟨g, cap, rfl, h2, h3, h4, h5⟩ := ownsRow_row h h0
  refine Or.inr ⟨g, cap, ⟨by omega, h3⟩, rfl, h4, h5.congr fun i hi => ?_⟩
  rw [List.getElem?_map, List.getElem?_eq_getElem hi]
  rfl
/-- An append of words that are written out. -/
theorem append_wds (w : World) (n₀ : Nat) (v : Value) (zs ys : List Int) (arr : Array Value) (m : Nat) (he : arr = (ys.map intV).toArray) (hm : ys.length = m) (hrow : Wds w n₀ v zs) (hn₀ : n₀ ≤ w.heap.size) (hz : zs.length ≤ 16777216) (hz0 : 0 < zs.length) (hy : m ≤ 1048576) :
    ∃ v' X, (Builtin.append_ #[56, 56] 56 #[v, .slice (some ⟨w.heap.size, 0, none⟩) m m]).run Try.prog (w.alloc (.cells arr 2)) = .ok v' X ∧ Wds X n₀ v' (zs ++ ys) ∧ Below n₀ w X ∧ KeepT w X := by
  subst he
  obtain ⟨v', X, h1, h2, h3, h4⟩ := append_any (w.alloc (.cells (ys.map intV).toArray 2)) n₀ v zs ys (some ⟨w.heap.size, 0, none⟩) m m (hrow.later (later1 _ _)) (by simp; omega) hm hz hy (fun k hk => ⟨w.heap.size, 0, rfl, by
    rw [Nat.zero_add, new_cell]
    have : k < ys.length := by omega
    simp [List.getElem?_eq_getElem this, intV]⟩) (hrow.some hz0)
  exact ⟨v', X, h1, h2, ((later1 w _).mono hn₀).trans h3, (KeepT.later (later1 _ _)).trans h4⟩

/-- Block b holds vs, as cells of type t. -/
def Obx (w : World) (b : Nat) (vs : List Value) (t : TypeId) : Prop := w.heap[b]? = some (.cells vs.toArray t)
theorem Obx.new (w : World) (vs : List Value) (t : TypeId) : Obx (w.alloc (.cells vs.toArray t)) w.heap.size vs t := Go.Deep.blk_alloc_new _ _
theorem Obx.keep {w w' : World} {b : Nat} {vs : List Value} {t : TypeId} (h : Obx w b vs t) (hk : KeepT w w') (ht : t ≠ 2) : Obx w' b vs t := hk _ _ _ _ ht h
theorem Obx.bx {w : World} {b : Nat} {vs : List Value} {t : TypeId} (h : Obx w b vs t) : Bx w b vs := fun i v hv => by
  unfold Obx at h
  simp [World.cell?, h, hv]
theorem Obx.lt {w : World} {b : Nat} {vs : List Value} {t : TypeId} (h : Obx w b vs t) : b < w.heap.size := (Array.getElem?_eq_some_iff.1 h).1

/-- The words of an entry. -/
def byteZ (b : UInt8) : Int := (b.toNat : Int)
def entW (e : EN) : List Int := e.2 :: (e.1.size : Int) :: e.1.data.toList.map byteZ
def entsW (es : List EN) : List Int := es.flatMap entW
def packL (d : ID) : List Int := [d.1, d.2.1, d.2.2.1] ++ d.2.2.2.1 ++ (if d.1 = 2 then ((d.2.2.2.2.length : Nat) : Int) :: entsW d.2.2.2.2 else [])
def packR (d : ID) : Int × List Int := if inoF d = 0 then (0, packL d) else (inoF d, [])
theorem entW_len (e : EN) : (entW e).length = 2 + e.1.size := by
  show (e.2 :: (e.1.size : Int) :: e.1.data.toList.map byteZ).length = _
  rw [List.length_cons, List.length_cons, List.length_map, Array.length_toList]; show e.1.size + 1 + 1 = 2 + e.1.size; omega
theorem entsW_len (es : List EN) : (entsW es).length ≤ 2 * sizeN es := by
  unfold sizeN
  induction es with
  | nil => simp [entsW, nlens]
  | cons e t ih =>
    have h1 : (entsW (e :: t)).length = (entW e).length + (entsW t).length := by simp [entsW]
    have h2 : (nlens (e :: t)).sum = e.1.size + (nlens t).sum := by simp [nlens]
    rw [h1, h2, entW_len]
    simp only [List.length_cons]
    omega
theorem packL_len (d : ID) : (packL d).length ≤ 4 + 2 * sizeIno d := by
  have := entsW_len d.2.2.2.2
  unfold packL sizeIno
  split <;> simp <;> omega
theorem packSpan (d : ID) (h : sizeIno d ≤ 1048576) : ((packR d).2.length : Int) ≤ 100000000 := by
  unfold packR
  split
  · have := packL_len d
    show ((packL d).length : Int) ≤ _
    omega
  · simp
/-- The words of a name's first k bytes. -/
def nameW (x : ByteArray) (k : Nat) : List Int := (x.data.toList.take k).map byteZ
theorem nameW_next (x : ByteArray) (k : Nat) (hk : k < x.size) : nameW x (k + 1) = nameW x k ++ [((x[k]'hk).toNat : Int)] := by
  unfold nameW
  have h : k < x.data.toList.length := by rw [Array.length_toList]; exact hk
  rw [List.take_succ_eq_append_getElem h, List.map_append]
  rfl
theorem nameW_len (x : ByteArray) (k : Nat) : (nameW x k).length ≤ x.size := by
  unfold nameW
  rw [List.length_map, List.length_take, Array.length_toList]
  exact Nat.min_le_right _ _
theorem nameW_all (x : ByteArray) (y : Int) : [y, (x.size : Int)] ++ nameW x x.size = entW (x, y) := by
  unfold nameW entW
  rw [List.take_of_length_le (by rw [Array.length_toList]; exact Nat.le_refl _)]
  rfl
theorem upto_size (es : List EN) (j : Nat) (hj : j < es.length) : (entsW (es.take j)).length + 2 + (es[j]?.getD en0).1.size ≤ (entsW es).length := by
  have h1 : es = es.take (j + 1) ++ es.drop (j + 1) := (List.take_append_drop _ _).symm
  have h2 : (entsW es).length = (entsW (es.take (j + 1))).length + (entsW (es.drop (j + 1))).length := by
    conv => lhs; rw [h1]
    unfold entsW
    rw [List.flatMap_append, List.length_append]
  have h3 : entsW (es.take (j + 1)) = entsW (es.take j) ++ entW (es[j]?.getD en0) := by
    unfold entsW
    rw [List.take_succ_eq_append_getElem hj, List.flatMap_append, List.getElem?_eq_getElem hj]
    simp
  rw [h2, h3, List.length_append, entW_len]
  omega
theorem entsW_take (es : List EN) (j : Nat) (hj : j < es.length) : entsW (es.take (j + 1)) = entsW (es.take j) ++ entW (es[j]?.getD en0) := by
  unfold entsW
  rw [List.take_succ_eq_append_getElem hj, List.flatMap_append, List.getElem?_eq_getElem hj]
  simp
end Go.Proofs.Ytpmndmkmfcoieaa

namespace Go.Proofs.Ytpmndmkmfcoieaa
open Go.RowKit
set_option maxRecDepth 100000

/-- The fault of a list of inodes, and of busy blocks. -/
def insF (ds : List ID) : Int := if 10 < ds.length then 2 else fstNZ (fun i => inoF (ds[i]?.getD id0)) ds.length
def busF (bs : List Int) : Int := if 20 < bs.length then 2 else fstNZ (rngF bs) bs.length
/-- All blocks of all inodes, and all entries' inodes. -/
def allB (ds : List ID) : List Int := ds.flatMap fun d => d.2.2.2.1
def cntB (ds : List ID) (v : Int) : Nat := (allB ds).count v
def entI (es : List EN) : List Int := es.map fun e => e.2
def allE (ds : List ID) : List Int := ds.flatMap fun d => entI d.2.2.2.2
theorem flat_next {α β : Type} (f : α → List β) (l : List α) (z : α) (j : Nat) (h : j < l.length) : (l.take (j + 1)).flatMap f = (l.take j).flatMap f ++ f (l[j]?.getD z) := by
  rw [List.take_succ_eq_append_getElem h, List.flatMap_append, List.getElem?_eq_getElem h]
  simp
theorem count_next (l : List Int) (v : Int) (k : Nat) (h : k < l.length) : (l.take (k + 1)).count v = (l.take k).count v + (if l[k]?.getD 0 = v then 1 else 0) := by
  rw [List.take_succ_eq_append_getElem h, List.count_append, List.getElem?_eq_getElem h, List.count_singleton]
  simp only [Option.getD_some]
  by_cases e : l[k] = v
  · rw [if_pos e, e, beq_self_eq_true]; rfl
  · rw [if_neg e, show (l[k] == v) = false by simpa using e]; rfl
theorem allB_len (ds : List ID) : (allB ds).length ≤ (isz ds).sum := by
  unfold allB isz
  induction ds with
  | nil => simp
  | cons d ds ih =>
    simp only [List.flatMap_cons, List.length_append, List.map_cons, List.sum_cons]
    have hd : sizeIno d = d.2.2.2.1.length + sizeN d.2.2.2.2 := rfl
    omega
theorem allE_len (ds : List ID) : (allE ds).length ≤ (isz ds).sum := by
  unfold allE isz
  induction ds with
  | nil => simp
  | cons d ds ih =>
    simp only [List.flatMap_cons, List.length_append, List.map_cons, List.sum_cons]
    have : (entI d.2.2.2.2).length = d.2.2.2.2.length := by simp [entI]
    have hd : sizeIno d = d.2.2.2.1.length + (d.2.2.2.2.length + (nlens d.2.2.2.2).sum) := rfl
    omega
theorem flat_take {α β : Type} (f : α → List β) (l : List α) (j : Nat) : ((l.take j).flatMap f).length ≤ (l.flatMap f).length := by
  conv => rhs; rw [← List.take_append_drop j l]
  rw [List.flatMap_append, List.length_append]
  omega

/-- The numbers below j that p picks. -/
def selL (p : Nat → Bool) (j : Nat) : List Int := ((List.range j).filter p).map fun k : Nat => (k : Int)
theorem selL_yes {p : Nat → Bool} {j : Nat} (h : p j = true) : selL p (j + 1) = selL p j ++ [(j : Int)] := by simp [selL, List.range_succ, h]
theorem selL_no {p : Nat → Bool} {j : Nat} (h : p j = false) : selL p (j + 1) = selL p j := by simp [selL, List.range_succ, h]
theorem selL_len (p : Nat → Bool) (j : Nat) : (selL p j).length ≤ j := by
  unfold selL
  rw [List.length_map]
  have := List.length_filter_le p (List.range j)
  simpa using this

def usedP (ds : List ID) (k : Nat) : Bool := decide (0 < cntB ds (k : Int))
def onceB (ds : List ID) (j : Nat) : Bool := (List.range j).all fun k => decide (cntB ds (k : Int) ≤ 1)
theorem onceB_next (ds : List ID) (j : Nat) : onceB ds (j + 1) = (onceB ds j && decide (cntB ds (j : Int) ≤ 1)) := by
  unfold onceB
  rw [List.range_succ, List.all_append]
  simp
/-- UsedBlocks. -/
def usedR (ds : List ID) : Int × List Int := if insF ds = 0 then (if onceB ds 20 = true then (0, selL (usedP ds) 20) else (7, [])) else (insF ds, [])
def freeP (ds : List ID) (bs : List Int) (k : Nat) : Bool := decide (cntB ds (k : Int) = 0) && !(bs.contains (k : Int))
def askF (ds : List ID) (bs : List Int) : Int := if insF ds = 0 then busF bs else insF ds
/-- FreeBlocks. -/
def freeR (ds : List ID) (bs : List Int) : Int × List Int := if askF ds bs = 0 then (0, selL (freeP ds bs) 20) else (askF ds bs, [])
/-- PickBlocks. -/
def pickR (ds : List ID) (bs : List Int) (n : Int) : Int × List Int :=
  if askF ds bs = 0 then (if 0 ≤ n ∧ n ≤ 4 then (if ((selL (freeP ds bs) 20).length : Int) < n then (8, []) else (0, (selL (freeP ds bs) 20).take n.toNat)) else (3, [])) else (askF ds bs, [])
/-- The first inode that is free, or the place behind the last, or none. -/
def kindAt (ds : List ID) (k : Nat) : Int := (ds[k]?.getD id0).1
def plcI (ds : List ID) : Nat → Int
  | 0 => if ds.length < 10 then (ds.length : Int) else -1
  | m + 1 => if kindAt ds (ds.length - (m + 1)) = 0 then ((ds.length - (m + 1) : Nat) : Int) else plcI ds m
theorem plcI_yes (ds : List ID) {j : Nat} (hj : j < ds.length) (h : kindAt ds j = 0) : plcI ds (ds.length - j) = (j : Int) := by
  obtain ⟨m, hm⟩ : ∃ m, ds.length - j = m + 1 := ⟨ds.length - j - 1, by omega⟩
  rw [hm]
  show (if kindAt ds (ds.length - (m + 1)) = 0 then ((ds.length - (m + 1) : Nat) : Int) else plcI ds m) = _
  rw [show ds.length - (m + 1) = j by omega, if_pos h]
theorem plcI_no (ds : List ID) {j : Nat} (hj : j < ds.length) (h : ¬ kindAt ds j = 0) : plcI ds (ds.length - (j + 1)) = plcI ds (ds.length - j) := by
  obtain ⟨m, hm⟩ : ∃ m, ds.length - j = m + 1 := ⟨ds.length - j - 1, by omega⟩
  rw [hm, show ds.length - (j + 1) = m by omega]
  show _ = (if kindAt ds (ds.length - (m + 1)) = 0 then ((ds.length - (m + 1) : Nat) : Int) else plcI ds m)
  rw [show ds.length - (m + 1) = j by omega, if_neg h]
/-- FreeInode. -/
def finR (ds : List ID) : Int × Int := if insF ds = 0 then (if plcI ds ds.length < 0 then (8, 0) else (0, plcI ds ds.length)) else (insF ds, 0)
/-- LinksOf. -/
def lnkR (ds : List ID) (at_ : Int) : Int × Int := if insF ds = 0 then (if 0 ≤ at_ ∧ at_ ≤ (ds.length : Int) - 1 then (0, ((allE ds).count at_ : Nat)) else (3, 0)) else (insF ds, 0)

/-- An append of one word. -/
theorem append_w1 (w : World) (n₀ : Nat) (v : Value) (zs : List Int) (y : Int) (hrow : Wds w n₀ v zs) (hn₀ : n₀ ≤ w.heap.size) (hz : zs.length ≤ 16777216) :
    ∃ a c X, (Builtin.append_ #[56, 56] 56 #[v, .slice (some ⟨w.heap.size, 0, none⟩) 1 1]).run Try.prog (w.alloc (.cells #[.int .i64 y] 2)) = .ok (.slice a (zs ++ [y]).length c) X ∧ Wds X n₀ (.slice a (zs ++ [y]).length c) (zs ++ [y]) ∧ Below n₀ w X ∧ KeepT w X := by
  obtain ⟨i, hi, h1, h2, h3⟩ := Try.infoInt'
  have hrow2 : Wds (w.alloc (.cells #[.int .i64 y] 2)) n₀ v zs := hrow.later (later1 _ _)
  obtain ⟨v', X, hr, ho, hg, _⟩ := run_append_own (P := Try.prog) (w.alloc (.cells #[.int .i64 y] 2)) n₀ 56 56 2 i (.int .i64 0) 1 8 Try.underlying56 hi h1 h2 h3 rfl (by decide) v zs.length _ hrow2 ⟨w.heap.size, 0, none⟩ 1 1 [intV y]
    (by simp) (fun j u hu => by
      have hj : j = 0 := by
        have := (List.getElem?_eq_some_iff.1 hu).1
        simp at this; omega
      subst hj
      simp only [List.getElem?_cons_zero, Option.some.injEq] at hu
      subst hu
      rw [add_plain', Nat.add_zero, new_cell]
      rfl) (fun u hu => by
      simp only [List.mem_singleton] at hu
      subst hu
      rfl) (by unfold maxLen; omega) (by omega) (by simp; omega)
  have how : Wds X n₀ v' (zs ++ [y]) := by
    unfold Wds
    rw [List.length_append, List.map_append]
    exact ho
  obtain ⟨a, c, rfl⟩ := how.shape
  refine ⟨a, c, X, hr, how, ((later1 w _).mono hn₀).trans (below_grown hg (by simp; omega) (fun k hk => ?_)), (KeepT.later (later1 _ _)).trans (KeepT.grown hrow2 hg)⟩
  rcases hrow.2 with ⟨e, _⟩ | ⟨g, cap, cur, e, hb, _⟩
  · rw [e] at hk; simp [Value.ownBlock] at hk
  · rw [e] at hk
    simp only [Value.ownBlock, Option.some.injEq] at hk
    omega
theorem Wds.nil (w : World) (n₀ : Nat) : Wds w n₀ (.slice none 0 0) [] := ⟨by simp, Or.inl ⟨rfl, rfl⟩⟩
theorem Wds.own' {w w0 : World} {n₀ : Nat} {v : Value} {zs : List Int} (h : Wds w n₀ v zs) (hn : w0.heap.size ≤ n₀) : IntsO w v zs (fresh w0 w) := by
  by_cases h0 : 0 < zs.length
  · exact h.own h0 hn
  · obtain ⟨a, c, rfl⟩ := h.shape
    have : zs = [] := List.eq_nil_of_length_eq_zero (by omega)
    subst this
    exact Or.inl ⟨rfl, a, c, rfl⟩
end Go.Proofs.Ytpmndmkmfcoieaa

namespace Go.Proofs.Ytpmndmkmfcoieaa
open Go.RowKit
set_option maxRecDepth 100000

/-- The cells of block b, from place o on. -/
def BxO (w : World) (b o : Nat) (vs : List Value) : Prop := ∀ i v, vs[i]? = some v → w.cell? ⟨b, o + i, none⟩ = some v
theorem Bx.zero {w : World} {b : Nat} {vs : List Value} (h : Bx w b vs) : BxO w b 0 vs := fun i v e => by rw [Nat.zero_add]; exact h i v e
end Go.Proofs.Ytpmndmkmfcoieaa

namespace Go.Proofs.Ytpmndmkmfcoieaa
open Go.RowKit
set_option maxRecDepth 100000

theorem entF_name {es : List EN} {i : Nat} (h : ¬ nameF (es[i]?.getD en0).1 = 0) : entF es i = nameF (es[i]?.getD en0).1 := by unfold entF; rw [if_neg h]
theorem entF_rng {es : List EN} {i : Nat} (h : nameF (es[i]?.getD en0).1 = 0) (h2 : ¬ (0 ≤ (es[i]?.getD en0).2 ∧ (es[i]?.getD en0).2 ≤ 9)) : entF es i = 3 := by unfold entF; rw [if_pos h, if_neg h2]
theorem entF_form {es : List EN} {i : Nat} (h : nameF (es[i]?.getD en0).1 = 0) (h2 : 0 ≤ (es[i]?.getD en0).2 ∧ (es[i]?.getD en0).2 ≤ 9) (h3 : 0 < i) (h4 : strLe (es[i]?.getD en0).1 (es[i - 1]?.getD en0).1 = true) : entF es i = 1 := by unfold entF; rw [if_pos h, if_pos h2, if_pos ⟨h3, h4⟩]
theorem entF_ok {es : List EN} {i : Nat} (h : nameF (es[i]?.getD en0).1 = 0) (h2 : 0 ≤ (es[i]?.getD en0).2 ∧ (es[i]?.getD en0).2 ≤ 9) (h3 : ¬ (0 < i ∧ strLe (es[i]?.getD en0).1 (es[i - 1]?.getD en0).1 = true)) : entF es i = 0 := by unfold entF; rw [if_pos h, if_pos h2, if_neg h3]

end Go.Proofs.Ytpmndmkmfcoieaa

namespace Go.Proofs.Ytpmndmkmfcoieaa
open Go.RowKit
set_option maxRecDepth 100000

theorem InoAt.bx {w : World} {b o : Nat} {d : ID} (h : InoAt w b o d) : ∃ aB cB aE cE, BxO w b o [.int .i64 d.1, .int .i64 d.2.1, .int .i64 d.2.2.1, .slice aB d.2.2.2.1.length cB, .slice aE d.2.2.2.2.length cE] ∧ Ints w (.slice aB d.2.2.2.1.length cB) d.2.2.2.1 ∧ Ents w (.slice aE d.2.2.2.2.length cE) d.2.2.2.2 := by
  obtain ⟨aB, cB, aE, cE, h0, h1, h2, h3, h4, h5⟩ := h
  refine ⟨aB, cB, aE, cE, fun i v hi => ?_, h5.2.1, h5.2.2⟩
  match i, hi with
  | 0, hi => simp at hi; subst hi; exact h0
  | 1, hi => simp at hi; subst hi; exact h1
  | 2, hi => simp at hi; subst hi; exact h2
  | 3, hi => simp at hi; subst hi; exact h3
  | 4, hi => simp at hi; subst hi; exact h4
  | n + 5, hi => simp at hi

end Go.Proofs.Ytpmndmkmfcoieaa

namespace Go.Proofs.Ytpmndmkmfcoieaa
open Go.RowKit
set_option maxRecDepth 100000

theorem Wds.lit0 (w : World) : Wds (w.alloc (.cells #[] 2)) w.heap.size (.slice (Option.some ⟨w.heap.size, 0, none⟩) 0 0) [] := Wds.lit w w.heap.size (Nat.le_refl _) [] #[] rfl 0 rfl (by omega)

end Go.Proofs.Ytpmndmkmfcoieaa

namespace Go.Proofs.Ytpmndmkmfcoieaa
open Go.RowKit
set_option maxRecDepth 100000

/-- A file system lies at b, o. -/
structure FsX (w : World) (b o : Nat) (d : FD) (aI : Option Addr) (cI : Nat) (aD : Option Addr) (cD : Nat) : Prop where
  c0 : w.cell? ⟨b, o, none⟩ = some (.slice aI d.1.length cI)
  c1 : w.cell? ⟨b, o + 1, none⟩ = some (.slice aD d.2.length cD)
  ins : Inos w (.slice aI d.1.length cI) d.1
  byt : Byts w (.slice aD d.2.length cD) d.2
theorem FsX.later {w w' : World} {b o : Nat} {d : FD} {aI : Option Addr} {cI : Nat} {aD : Option Addr} {cD : Nat} (h : FsX w b o d aI cI aD cD) (hb : Below w.heap.size w w') : FsX w' b o d aI cI aD cD :=
  ⟨cell_later hb h.c0, cell_later hb h.c1, h.ins.later hb, h.byt.later hb⟩
theorem FsX.drew {w : World} {b o : Nat} {d : FD} {aI : Option Addr} {cI : Nat} {aD : Option Addr} {cD : Nat} (h : FsX w b o d aI cI aD cD) (m : Nat) : FsX (w.drewN m) b o d aI cI aD cD := h.later (below_drewN (Below.refl _ _) m)

/-- An entry that leads nowhere. -/
def lostB (ds : List ID) (x : Int) : Bool := decide ((ds.length : Int) ≤ x) || decide (kindAt ds x.toNat = 0)
def formB (d : FD) : Bool := decide (d.1.length = 0) || decide (kindAt d.1 0 ≠ 2) || decide (d.2.length ≠ 20)
def manyF (zss : List (List UInt8)) (i : Nat) : Int := if 8 < (zss[i]?.getD []).length then 2 else 0
def lostF (ds : List ID) : Int := if (allE ds).any (lostB ds) then 4 else 0
/-- What is wrong of inodes, data and entries. -/
def fsE (d : FD) : Int := if insF d.1 = 0 then (if formB d then 1 else if fstNZ (manyF d.2) d.2.length = 0 then (if onceB d.1 20 then lostF d.1 else 7) else fstNZ (manyF d.2) d.2.length) else insF d.1

end Go.Proofs.Ytpmndmkmfcoieaa

namespace Go.Proofs.Ytpmndmkmfcoieaa
open Go.RowKit
set_option maxRecDepth 100000

theorem ins_ino {ds : List ID} (h : insF ds = 0) : ∀ j, j < ds.length → inoF (ds[j]?.getD id0) = 0 := by
  unfold insF at h
  by_cases h1 : 10 < ds.length
  · rw [if_pos h1] at h; omega
  · rw [if_neg h1] at h; exact fstNZ_inv h
theorem ino_ent {d : ID} (h : inoF d = 0) : ∀ k, k < d.2.2.2.2.length → 0 ≤ (d.2.2.2.2[k]?.getD en0).2 := by
  intro k hk
  have hd : dpB d = true := by unfold dpB; simpa using by omega
  unfold inoF at h
  by_cases h0 : d.1 = 0
  · rw [if_pos h0, hd, Bool.or_true, if_pos rfl] at h; omega
  · rw [if_neg h0] at h
    by_cases h1 : d.1 = 1
    · rw [if_pos h1, hd, if_pos rfl] at h; omega
    · rw [if_neg h1] at h
      by_cases h2 : d.1 = 2
      · rw [if_pos h2] at h
        by_cases h3 : fpB d = true
        · rw [if_pos h3] at h; omega
        · rw [if_neg h3] at h
          unfold dirF at h
          by_cases h4 : 6 < d.2.2.2.2.length
          · rw [if_pos h4] at h; omega
          · rw [if_neg h4] at h
            have h5 := fstNZ_inv h k hk
            unfold entF at h5
            by_cases h6 : nameF (d.2.2.2.2[k]?.getD en0).1 = 0
            · rw [if_pos h6] at h5
              by_cases h7 : 0 ≤ (d.2.2.2.2[k]?.getD en0).2 ∧ (d.2.2.2.2[k]?.getD en0).2 ≤ 9
              · exact h7.1
              · rw [if_neg h7] at h5; omega
            · rw [if_neg h6] at h5; exact absurd h5 h6
      · rw [if_neg h2] at h; omega
theorem mem_allE {ds : List ID} {x : Int} : x ∈ allE ds ↔ ∃ j, j < ds.length ∧ ∃ k, k < (ds[j]?.getD id0).2.2.2.2.length ∧ ((ds[j]?.getD id0).2.2.2.2[k]?.getD en0).2 = x := by
  unfold allE entI
  simp only [List.mem_flatMap, List.mem_map]
  constructor
  · rintro ⟨d, hd, e, he, rfl⟩
    obtain ⟨j, hj, rfl⟩ := List.getElem_of_mem hd
    obtain ⟨k, hk, rfl⟩ := List.getElem_of_mem he
    have e1 : ds[j]?.getD id0 = ds[j] := by simp [hj]
    exact ⟨j, hj, k, by rw [e1]; exact hk, by rw [e1]; simp [hk]⟩
  · rintro ⟨j, hj, k, hk, rfl⟩
    have e1 : ds[j]?.getD id0 = ds[j] := by simp [hj]
    rw [e1] at hk ⊢
    exact ⟨ds[j], List.getElem_mem hj, ds[j].2.2.2.2[k], List.getElem_mem hk, by simp [hk]⟩
theorem lost_yes {ds : List ID} {j k : Nat} (hj : j < ds.length) (hk : k < (ds[j]?.getD id0).2.2.2.2.length) (h : lostB ds ((ds[j]?.getD id0).2.2.2.2[k]?.getD en0).2 = true) : lostF ds = 4 := by
  unfold lostF; rw [if_pos (List.any_eq_true.2 ⟨_, mem_allE.2 ⟨j, hj, k, hk, rfl⟩, h⟩)]
theorem lost_no {ds : List ID} (h : ∀ j, j < ds.length → ∀ k, k < (ds[j]?.getD id0).2.2.2.2.length → lostB ds ((ds[j]?.getD id0).2.2.2.2[k]?.getD en0).2 = false) : lostF ds = 0 := by
  unfold lostF; rw [if_neg]
  intro h1
  obtain ⟨x, hx, h2⟩ := List.any_eq_true.1 h1
  obtain ⟨j, hj, k, hk, rfl⟩ := mem_allE.1 hx
  rw [h j hj k hk] at h2
  exact Bool.noConfusion h2

end Go.Proofs.Ytpmndmkmfcoieaa

namespace Go.Proofs.Ytpmndmkmfcoieaa
open Go.RowKit
set_option maxRecDepth 100000

def setB (g : Nat → Bool) (x : Int) : Nat → Bool := fun i => if i = x.toNat then true else g i
theorem setB_mono {g : Nat → Bool} {i : Nat} (h : g i = true) (x : Int) : setB g x i = true := by unfold setB; by_cases e : i = x.toNat <;> simp [e, h]
theorem foldB_mono {i : Nat} : ∀ (xs : List Int) {g : Nat → Bool}, g i = true → (xs.foldl setB g) i = true
  | [], _, h => h
  | x :: xs, _, h => foldB_mono xs (setB_mono h x)
theorem foldB_next (xs : List Int) (g : Nat → Bool) (k : Nat) (h : k < xs.length) : (xs.take (k + 1)).foldl setB g = setB ((xs.take k).foldl setB g) (xs[k]?.getD 0) := by
  rw [List.take_succ_eq_append_getElem h, List.foldl_append]; simp [h]
def inoB (ds : List ID) (g : Nat → Bool) (i : Nat) : Nat → Bool := if g i = true then (entI (ds[i]?.getD id0).2.2.2.2).foldl setB g else g
def sweepB (ds : List ID) (g : Nat → Bool) : Nat → Nat → Bool
  | 0 => g
  | i + 1 => inoB ds (sweepB ds g i) i
def reachG (ds : List ID) : Nat → Nat → Bool
  | 0 => fun i => decide (i = 0)
  | r + 1 => sweepB ds (reachG ds r) ds.length

end Go.Proofs.Ytpmndmkmfcoieaa

namespace Go.Proofs.Ytpmndmkmfcoieaa
open Go.RowKit
set_option maxRecDepth 100000

/-- The first append: three words, then the blocks. -/
theorem append_first (w W : World) (hW : Below w.heap.size w W) (z0 z1 z2 : Int) (aB : Option Addr) (nB cB : Nat) (bs : List Int) (hn : nB ≤ 1048576) (hbn : bs.length = nB) (hc : At1 w aB nB (fun k => .int .i64 (bs[k]?.getD 0))) :
    ∃ v' X, (Builtin.append_ #[56, 56] 56 #[.slice (some ⟨W.heap.size, 0, none⟩) 3 3, .slice aB nB cB]).run Try.prog (W.alloc (.cells #[.int .i64 z0, .int .i64 z1, .int .i64 z2] 2)) = .ok v' X ∧ Wds X w.heap.size v' ([z0, z1, z2] ++ bs) ∧ Below w.heap.size w X ∧ KeepT W X := by
  have hW1 : Below w.heap.size w (W.alloc (.cells #[.int .i64 z0, .int .i64 z1, .int .i64 z2] 2)) := hW.trans ((later1 _ _).mono hW.size)
  have hl := Wds.lit W w.heap.size hW.size [z0, z1, z2] #[.int .i64 z0, .int .i64 z1, .int .i64 z2] rfl 3 rfl (by omega)
  obtain ⟨v', X, h1, h2, h3, h4⟩ := append_any _ w.heap.size _ [z0, z1, z2] bs aB nB cB hl hW1.size hbn (by simp) hn (fun k hk => by
    obtain ⟨b, off, e, h⟩ := hc k hk
    exact ⟨b, off, e, cell_later hW1 h⟩) (hl.some (by simp))
  exact ⟨v', X, h1, h2, hW1.trans h3, (KeepT.later (later1 _ _)).trans h4⟩

end Go.Proofs.Ytpmndmkmfcoieaa

namespace Go.Proofs.Ytpmndmkmfcoieaa
open Go.RowKit
set_option maxRecDepth 100000

/-- Whether one of the first n is x. -/
def hasI (bs : List Int) (n : Nat) (x : Int) : Bool := (List.range n).any fun k => bs[k]?.getD 0 == x
theorem hasI_yes {bs : List Int} {n k : Nat} {x : Int} (hk : k < n) (e : bs[k]?.getD 0 = x) : hasI bs n x = true := by
  unfold hasI; rw [List.any_eq_true]; exact ⟨k, by simpa using hk, by simp [e]⟩
theorem hasI_no {bs : List Int} {n : Nat} {x : Int} (h : ∀ k, k < n → ¬ bs[k]?.getD 0 = x) : hasI bs n x = false := by
  unfold hasI; rw [List.any_eq_false]; intro k hk; simp at hk; simp [h k hk]

end Go.Proofs.Ytpmndmkmfcoieaa

namespace Go.Proofs.Ytpmndmkmfcoieaa
open Go.RowKit
set_option maxRecDepth 100000

/-- Answers that are a code and words. -/
def AnsIR (w : World) (r : Int × List Int) (e : Ending) (w' : World) : Prop := ∃ a n c, e = .returned (.agg #[.int .i64 r.1, .slice a n c]) ∧ Below w.heap.size w w' ∧ IntsO w' (.slice a n c) r.2 (fresh w w')

end Go.Proofs.Ytpmndmkmfcoieaa

namespace Go.Proofs.Ytpmndmkmfcoieaa
open Go.RowKit
set_option maxRecDepth 100000

theorem AnsIR.box {w w2 : World} {a : Option Addr} {n c : Nat} {zs : List Int} (hb : Below w.heap.size w w2) (ho : IntsO w2 (.slice a n c) zs (fun b => w.heap.size + 1 ≤ b ∧ b < w2.heap.size)) (x y : Value) :
    AnsIR w (0, zs) (.returned (.agg #[.int .i64 0, .slice a n c])) ((w2.setCell ⟨w.heap.size, 0, none⟩ x).setCell ⟨w.heap.size, 1, none⟩ y) := by
  refine ⟨_, _, _, rfl, (hb.setCell (by simp) _).setCell (by simp) _, (ho.keep fun b hb hlt => ?_).mono fun b hb => ⟨by omega, by simp only [World.setCell, Array.size_modify]; exact hb.2⟩⟩
  rw [Below.heap_setCell _ _ _ _ (by simp; omega), Below.heap_setCell _ _ _ _ (by simp; omega)]
theorem AnsIR.bad {w w2 : World} (r : Int) (hb : Below w.heap.size w w2) (x y : Value) :
    AnsIR w (r, []) (.returned (.agg #[.int .i64 r, .slice none 0 0])) ((w2.setCell ⟨w.heap.size, 0, none⟩ x).setCell ⟨w.heap.size, 1, none⟩ y) :=
  ⟨_, _, _, rfl, (hb.setCell (by simp) _).setCell (by simp) _, Or.inl ⟨rfl, _, _, rfl⟩⟩
/-- The result's box, made first. -/
theorem box2 (w : World) (t : TypeId) : OwnRow (w.alloc (.cells #[.int .i64 0, .slice none 0 0] t)) w.heap.size 2 (fun i => if i = 0 then .int .i64 0 else .slice none 0 0) := OwnRow.newS w (.int .i64 0) (.slice none 0 0) t
theorem Wds.box {w W w2 : World} {a : Option Addr} {n c : Nat} {zs : List Int} (hW : W.heap.size = w.heap.size + 1) (h : Wds w2 W.heap.size (.slice a n c) zs) : IntsO w2 (.slice a n c) zs (fun b => w.heap.size + 1 ≤ b ∧ b < w2.heap.size) :=
  (h.own' (w0 := W) (Nat.le_refl _)).mono fun b hb => ⟨by have := hb.1; omega, hb.2⟩

end Go.Proofs.Ytpmndmkmfcoieaa

namespace Go.Proofs.Ytpmndmkmfcoieaa
open Go.RowKit
set_option maxRecDepth 100000

theorem entI_get (es : List EN) (k : Nat) : (entI es)[k]?.getD 0 = (es[k]?.getD en0).2 := by
  unfold entI; rw [List.getElem?_map]; cases es[k]? <;> rfl
theorem entI_len (es : List EN) : (entI es).length = es.length := by simp [entI]
theorem allE_bound (ds : List ID) (hs : sizeInos ds ≤ 1048576) (v : Int) : (allE ds).count v ≤ 1048576 := by
  have h2 := allE_len ds
  have h3 := List.count_le_length (a := v) (l := allE ds)
  unfold sizeInos at hs
  omega

end Go.Proofs.Ytpmndmkmfcoieaa

namespace Go.Proofs.Ytpmndmkmfcoieaa
open Go.RowKit
set_option maxRecDepth 100000

/-- How many entries have to name an inode. -/
def wantL (ds : List ID) (i : Nat) : Int := if kindAt ds i = 1 then (ds[i]?.getD id0).2.1 else if i = 0 then 0 else 1
def lnkOK (ds : List ID) (i : Nat) : Bool := decide (kindAt ds i = 0) || (decide ((((allE ds).count (i : Int) : Nat) : Int) = wantL ds i) && reachG ds ds.length i)
def linksB (ds : List ID) : Bool := (List.range ds.length).all (lnkOK ds)
theorem linksB_no {ds : List ID} {i : Nat} (hi : i < ds.length) (h : lnkOK ds i = false) : linksB ds = false := by
  unfold linksB
  rw [List.all_eq_false]
  exact ⟨i, by simpa using hi, by simp [h]⟩
theorem linksB_yes {ds : List ID} (h : ∀ i, i < ds.length → lnkOK ds i = true) : linksB ds = true := by
  unfold linksB
  rw [List.all_eq_true]
  intro i hi
  exact h i (by simpa using hi)
theorem selL_contains (p : Nat → Bool) {n i : Nat} (hi : i < n) : (selL p n).contains (i : Int) = p i := by
  cases hp : p i with
  | true =>
    rw [List.contains_iff_mem]
    unfold selL
    rw [List.mem_map]
    exact ⟨i, List.mem_filter.2 ⟨by simpa using hi, hp⟩, rfl⟩
  | false =>
    rw [Bool.eq_false_iff]
    intro hc
    rw [List.contains_iff_mem] at hc
    unfold selL at hc
    rw [List.mem_map] at hc
    obtain ⟨k, hk, e⟩ := hc
    have : k = i := by omega
    subst this
    rw [(List.mem_filter.1 hk).2] at hp
    cases hp

end Go.Proofs.Ytpmndmkmfcoieaa

namespace Go.Proofs.Ytpmndmkmfcoieaa
open Go.RowKit
set_option maxRecDepth 100000

theorem ino_size {d : ID} (h : inoF d = 0) : 0 ≤ d.2.2.1 ∧ d.2.2.1 ≤ 32 ∧ ((d.2.2.2.1.length : Nat) : Int) = (d.2.2.1 + 7) / 8 := by
  unfold inoF at h
  have fp : fpB d = false → d.2.2.1 = 0 ∧ d.2.2.2.1.length = 0 := fun hf => by
    unfold fpB at hf
    simp at hf
    exact ⟨hf.1.2, by rw [hf.2]; rfl⟩
  by_cases h0 : d.1 = 0
  · rw [if_pos h0] at h
    have hf : fpB d = false := by
      cases e : fpB d with
      | false => rfl
      | true => rw [e] at h; simp at h
    obtain ⟨h1, h2⟩ := fp hf
    omega
  · rw [if_neg h0] at h
    by_cases h1 : d.1 = 1
    · rw [if_pos h1] at h
      have hd : dpB d = false := by
        cases e : dpB d with
        | false => rfl
        | true => rw [e] at h; simp at h
      rw [hd] at h
      simp only [Bool.false_eq_true, if_false] at h
      unfold fileF at h
      by_cases hl : linkB d.2.1 = true ∧ sizeB d.2.2.1 = true
      · rw [if_pos hl] at h
        have hz := hl.2
        unfold sizeB at hz
        simp at hz
        by_cases hb : ((d.2.2.2.1.length : Nat) : Int) = (d.2.2.1 + 7) / 8
        · exact ⟨hz.1, hz.2, hb⟩
        · rw [if_neg hb] at h; omega
      · rw [if_neg hl] at h; omega
    · rw [if_neg h1] at h
      by_cases h2 : d.1 = 2
      · rw [if_pos h2] at h
        have hf : fpB d = false := by
          cases e : fpB d with
          | false => rfl
          | true => rw [e] at h; simp at h
        obtain ⟨h3, h4⟩ := fp hf
        omega
      · rw [if_neg h2] at h; omega
theorem ino_six {d : ID} (h : inoF d = 0) : d.2.2.2.2.length ≤ 6 := by
  unfold inoF at h
  have dp : dpB d = false → d.2.2.2.2.length = 0 := fun hd => by unfold dpB at hd; simp at hd; rw [hd]; rfl
  by_cases h0 : d.1 = 0
  · rw [if_pos h0] at h
    have hd : dpB d = false := by
      cases e : dpB d with
      | false => rfl
      | true => rw [e] at h; simp at h
    have := dp hd
    omega
  · rw [if_neg h0] at h
    by_cases h1 : d.1 = 1
    · rw [if_pos h1] at h
      have hd : dpB d = false := by
        cases e : dpB d with
        | false => rfl
        | true => rw [e] at h; simp at h
      have := dp hd
      omega
    · rw [if_neg h1] at h
      by_cases h2 : d.1 = 2
      · rw [if_pos h2] at h
        by_cases hf : fpB d = true
        · rw [if_pos hf] at h; omega
        · rw [if_neg hf] at h
          unfold dirF at h
          by_cases h6 : 6 < d.2.2.2.2.length
          · rw [if_pos h6] at h; omega
          · omega
      · rw [if_neg h2] at h; omega

theorem lt_of_cell {w : World} {b o : Nat} {v : Value} (h : w.cell? ⟨b, o, none⟩ = some v) : b < w.heap.size := by
  by_cases hb : b < w.heap.size
  · exact hb
  · simp [World.cell?, Array.getElem?_eq_none (Nat.le_of_not_lt hb)] at h
theorem wrap_in (x : Int) (h0 : -9223372036854775808 ≤ x) (h1 : x ≤ 9223372036854775807) : IntKind.i64.wrap x = x := by
  unfold IntKind.wrap
  simp only [IntKind.signed, IntKind.bits]
  simp
  split <;> omega
def m8 (x : Int) : Int := if 8 < x then 8 else x
def putD (f : Nat → Int) (b v : Int) : Nat → Int := fun i => if i = b.toNat then v else f i
/-- How many bytes each block has to hold, behind k blocks of one inode, behind j inodes. -/
def dueK (s : Int) (bs : List Int) (f : Nat → Int) : Nat → Nat → Int
  | 0 => f
  | k + 1 => putD (dueK s bs f k) (bs[k]?.getD 0) (m8 (s - 8 * (k : Int)))
def dueI (ds : List ID) : Nat → Nat → Int
  | 0 => fun _ => 0
  | j + 1 => dueK (ds[j]?.getD id0).2.2.1 (ds[j]?.getD id0).2.2.2.1 (dueI ds j) (ds[j]?.getD id0).2.2.2.1.length
def sizOK (d : FD) (i : Nat) : Bool := decide ((((d.2[i]?.getD []).length : Nat) : Int) = dueI d.1 d.1.length i)
def sizesB (d : FD) : Bool := (List.range 20).all (sizOK d)
theorem sizesB_no {d : FD} {i : Nat} (hi : i < 20) (h : sizOK d i = false) : sizesB d = false := by
  unfold sizesB
  rw [List.all_eq_false]
  exact ⟨i, by simpa using hi, by simp [h]⟩
theorem sizesB_yes {d : FD} (h : ∀ i, i < 20 → sizOK d i = true) : sizesB d = true := by
  unfold sizesB
  rw [List.all_eq_true]
  intro i hi
  exact h i (by simpa using hi)
def intF (f : Nat → Int) (i : Nat) : Value := .int .i64 (f i)

end Go.Proofs.Ytpmndmkmfcoieaa
