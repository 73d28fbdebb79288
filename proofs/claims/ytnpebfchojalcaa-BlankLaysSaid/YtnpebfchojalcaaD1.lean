import Derived.Test.YtnpebfchojalcaaB8
import Derived.Test.YtnpebfchojalcaaC7
namespace Go.Proofs.Ytnpebfchojalcaa
set_option maxRecDepth 100000
open Go.RowKit Go.Shelf
def triE : List Pt := [(0, 0), (2, 0), (0, 2)]
theorem tri_blank : blankB triE = true := by decide +kernel
theorem tri_113 : avoidB (collL triE 1 0 1) 1 1 3 = true := by decide +kernel
theorem tri_101 : avoidB (collL triE 1 0 1) 1 0 1 = false := by decide +kernel
theorem tri_102 : avoidB (collL triE 1 0 1) 1 0 2 = false := by decide +kernel
theorem tri_112 : avoidB (collL triE 1 0 1) 1 1 2 = false := by decide +kernel
theorem tri_201 : avoidB (collL triE 1 0 1) 2 0 1 = false := by decide +kernel
theorem tri_103 : avoidB (collL triE 1 0 1) 1 0 3 = false := by decide +kernel
theorem triE_first : FirstG (collL triE 1 0 1) 1 1 3 := by
  refine ⟨by decide, tri_113, fun A B D h1 h2 h3 h4 => ?_⟩
  have hm : A * D ≤ 3 := by unfold befG at h4; omega
  obtain ⟨a3, d3⟩ := mul_le_of h1 (show 1 ≤ D by omega) hm
  unfold befG at h4
  have hA : A = 1 ∨ A = 2 ∨ A = 3 := by omega
  have hD : D = 1 ∨ D = 2 ∨ D = 3 := by omega
  rcases hA with rfl | rfl | rfl <;> rcases hD with rfl | rfl | rfl <;> try (exfalso; omega)
  · obtain rfl : B = 0 := by omega
    exact tri_101
  · have hB : B = 0 ∨ B = 1 := by omega
    rcases hB with rfl | rfl
    · exact tri_102
    · exact tri_112
  · obtain rfl : B = 0 := by omega
    exact tri_103
  · obtain rfl : B = 0 := by omega
    exact tri_201
def itsP : List It := [(2, 2, 5), (4, 1, 3)]
theorem its_ord : ordZ 4 3 itsP = 0 := by decide +kernel
theorem its_best : bestV itsP 4 3 = 13 := by decide +kernel
theorem its_plan : planZ itsP 4 3 = [(3, 1), (1, 1), (2, 2), (1, 0), (1, 0)] := by decide +kernel
theorem items_made (w : World) : Items (w.alloc (.cells #[.int .i64 2, .int .i64 2, .int .i64 5, .int .i64 4, .int .i64 1, .int .i64 3] 53)) (.slice (some ⟨w.heap.size, 0, none⟩) 2 2) itsP := by
  have h := vrow_alloc w [.int .i64 2, .int .i64 2, .int .i64 5, .int .i64 4, .int .i64 1, .int .i64 3] 53
  refine ⟨_, 2, rfl, by decide, by decide, .inr ⟨_, 0, rfl, fun k t hk => ?_⟩⟩
  match k, hk with
  | 0, hk => injection hk with hk; subst hk; exact ⟨VRow.cell h (k := 0) rfl, VRow.cell h (k := 1) rfl, VRow.cell h (k := 2) rfl⟩
  | 1, hk => injection hk with hk; subst hk; exact ⟨VRow.cell h (k := 3) rfl, VRow.cell h (k := 4) rfl, VRow.cell h (k := 5) rfl⟩
  | k + 2, hk => simp [itsP] at hk
theorem tri_made (w : World) : Vecs (w.alloc (.cells #[.int .i64 0, .int .i64 0, .int .i64 2, .int .i64 0, .int .i64 0, .int .i64 2] 31)) (.slice (some ⟨w.heap.size, 0, none⟩) 3 3) triE := by
  have h := vrow_alloc w [.int .i64 0, .int .i64 0, .int .i64 2, .int .i64 0, .int .i64 0, .int .i64 2] 31
  refine ⟨_, 3, rfl, by decide, by decide, .inr ⟨_, 0, rfl, fun k t hk => ?_⟩⟩
  match k, hk with
  | 0, hk => injection hk with hk; subst hk; exact ⟨VRow.cell h (k := 0) rfl, VRow.cell h (k := 1) rfl⟩
  | 1, hk => injection hk with hk; subst hk; exact ⟨VRow.cell h (k := 2) rfl, VRow.cell h (k := 3) rfl⟩
  | 2, hk => injection hk with hk; subst hk; exact ⟨VRow.cell h (k := 4) rfl, VRow.cell h (k := 5) rfl⟩
  | k + 3, hk => simp [triE] at hk
end Go.Proofs.Ytnpebfchojalcaa
